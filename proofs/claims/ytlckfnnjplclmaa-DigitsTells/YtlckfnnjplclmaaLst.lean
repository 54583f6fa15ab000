/- Lists of numbers in memory, and rows that a call owns; the walks of Within and of Same. -/
import Derived.Test.YtlckfnnjplclmaaMem
import Derived.Lib.Small
import Derived.Deep.Onto
import Derived.Lib.AppendZeros
import Derived.Lib.AppendZerosOnto
namespace Go.Proofs.Ytlckfnnjplclmaa
open Go.ChangeShapes Go.WideShapes Go.ChangeAt Go.RowKit

theorem info3i : (Try.prog.info? 3).map (fun i => (i.zero, i.size, i.bytes)) = some (some (.int .i64 0), 1, 8) := by kernel_rfl

/-- a list that lies in memory -/
def Lst (w : World) (v : Value) (l : List Int) : Prop :=
  ∃ a c, v = .slice a l.length c ∧ l.length ≤ c ∧ c ≤ maxLen ∧ (a = none → c = 0) ∧ (l = [] ∨ ∃ b off, a = some ⟨b, off, none⟩ ∧ b < w.heap.size ∧ ∀ (i : Nat) (x : Int), l[i]? = some x → w.cell? ⟨b, off + i, none⟩ = some (.int .i64 x))

theorem Lst.below {w w' : World} {v : Value} {l : List Int} (h : Lst w v l) (k : Below w.heap.size w w') : Lst w' v l := by
  obtain ⟨a, c, e, h1, h2, h3, h4⟩ := h
  refine ⟨a, c, e, h1, h2, h3, ?_⟩
  rcases h4 with h4 | ⟨b, off, e, hb, hc⟩
  · exact Or.inl h4
  · exact Or.inr ⟨b, off, e, Nat.lt_of_lt_of_le hb k.size, fun i x hx => (k.cell (p := ⟨b, _, none⟩) hb).trans (hc i x hx)⟩
theorem Lst.nil (w : World) : Lst w (.slice none 0 0) [] := ⟨none, 0, rfl, Nat.le_refl _, Nat.zero_le _, fun _ => rfl, Or.inl rfl⟩

def int1 (x : Int) : List Value := [.int .i64 x]
theorem int1_len : ∀ x, (int1 x).length = 1 := fun _ => rfl
theorem int1_one : ∀ x, ∀ v ∈ int1 x, v.oneCell' = true := fun x v h => by simp [int1] at h; subst h; rfl
theorem int1_at : ∀ (l : List Int) (j : Nat), (row int1 l)[j]? = (l[j]?).map fun x => .int .i64 x
  | [], j => by simp [row]
  | x :: r, 0 => by simp [row, int1]
  | x :: r, j + 1 => by simp [row, int1]; simpa using int1_at r j
theorem int1_row_len (l : List Int) : (row int1 l).length = l.length := by rw [row_length int1_len, Nat.mul_one]

/-- a list that the call owns -/
def Own (w : World) (B : Nat) (v : Value) (l : List Int) : Prop := w.ownsRow B 3 1 v l.length (row int1 l)

theorem Own.lst {w : World} {B : Nat} {v : Value} {l : List Int} (h : Own w B v l) : Lst w v l := by
  rcases h.2 with ⟨rfl, h0⟩ | ⟨g, cap, cur, rfl, hb, hg, h1, h2, h3, h4⟩
  · have := List.eq_nil_of_length_eq_zero h0
    subst this
    exact Lst.nil w
  · refine ⟨some ⟨g, 0, none⟩, cap, rfl, h1, h2, (fun e => by cases e), Or.inr ⟨g, 0, rfl, lt_of_block hg, fun i x hx => ?_⟩⟩
    have hi : i < l.length := (List.getElem?_eq_some_iff.1 hx).1
    have := World.ownsRow.cellAt h (g := g) (cap := cap) i (by omega)
    rw [int1_at, hx] at this
    simpa using this
theorem Own.base {w : World} {B B' : Nat} {v : Value} {l : List Int} (h : Own w B v l) (hb : B' ≤ B) : Own w B' v l := by
  refine ⟨h.1, ?_⟩
  rcases h.2 with h' | ⟨g, cap, cur, rfl, hb', r⟩
  · exact Or.inl h'
  · exact Or.inr ⟨g, cap, cur, rfl, Nat.le_trans hb hb', r⟩
theorem Own.nil (w : World) (B : Nat) : Own w B (.slice none 0 0) [] := World.ownsRow_nil w B 3 1
theorem below_grown {w w' : World} {v : Value} {n : Nat} {xs : List Value} {w0 : World} (h : w.ownsRow w0.heap.size 3 1 v n xs) (g : w.grownBy w' v.ownBlock) (k : Below w0.heap.size w0 w) : Below w0.heap.size w0 w' :=
  k.grown g k.size fun j hj => (h.lt j hj).1

theorem append_lst {base : Nat} (w : World) (ty : TypeId) (v x : Value) (n : Nat) (xs : List Value) (l : List Int) (hown : w.ownsRow base 3 1 v n xs) (hx : Lst w x l) (h63 : n + l.length ≤ 1000000) (hbase : base ≤ w.heap.size) :
    ∃ v' w', (Builtin.append_ #[24, 24] ty #[v, x]).run Try.prog w = .ok v' w' ∧ w'.ownsRow base 3 1 v' (n + l.length) (xs ++ row int1 l) ∧ w.grownBy w' v.ownBlock := by
  obtain ⟨i, hi, h0, h1, h2⟩ := info_parts info3i
  obtain ⟨a, c, rfl, q1, q2, q3, q4⟩ := hx
  cases a with
  | none =>
    have hc := q3 rfl
    subst hc
    have hl : l = [] := List.eq_nil_of_length_eq_zero (by omega)
    subst hl
    exact ⟨v, w, run_append_owned_none (P := Try.prog) w base 24 ty 3 i 1 Try.underlying24 hi v n xs hown, by simpa [row] using hown, ⟨rfl, rfl, rfl, Nat.le_refl _, fun _ _ _ => rfl⟩⟩
  | some ad =>
    obtain ⟨v', w', hr, p1, p2, _⟩ := run_append_own (P := Try.prog) w base 24 ty 3 i _ 1 8 Try.underlying24 hi h0 h1 h2 rfl (by decide) v n xs hown ad l.length c (row int1 l) (by rw [int1_row_len, Nat.mul_one]) (fun j u hu => by
      rw [int1_at] at hu
      cases hj : l[j]? with
      | none => simp [hj] at hu
      | some y =>
        simp [hj] at hu
        subst hu
        rcases q4 with rfl | ⟨b, off, e, hb, hc⟩
        · simp at hj
        · cases e
          have := hc j y hj
          rwa [show (⟨b, off, none⟩ : Addr).add j = ⟨b, off + j, none⟩ by unfold Addr.add; split <;> simp_all]) (row_one int1_one l) (by simp [maxLen]; omega) (by omega) hbase
    exact ⟨v', w', hr, p1, p2⟩

theorem wpList_append_lst {ops : Array Oper} {rest : List Oper} {o : Oper} {a : Act} {w : World} {Q : Exit → Act → World → Prop} (hgd : o.guard = none) (s y : Operand)
    (ho : o.op = .call { callee := .builtin .append, args := #[s, y], argTypes := #[24, 24] })
    (base : Nat) (v x : Value) (n : Nat) (xs : List Value) (l : List Int) (hs : a.eval s = v) (hy : a.eval y = x) (hown : w.ownsRow base 3 1 v n xs) (hx : Lst w x l)
    (h63 : n + l.length ≤ 1000000) (hbase : base ≤ w.heap.size)
    (h : ∀ v' w', w'.ownsRow base 3 1 v' (n + l.length) (xs ++ row int1 l) → w.grownBy w' v.ownBlock → wpList Try.prog ops Q rest (a.put o.dst v') w') : wpList Try.prog ops Q (o :: rest) a w := by
  refine wpList_plain hgd fun _ hK => ?_
  obtain ⟨v', w', hr, h2, h3⟩ := append_lst w o.type v x n xs l hown hx h63 hbase
  unfold Oper.wp execOp
  simp only [ho, resolve, invoke, builtin, Sem.run_bind, Sem.run_pure, Result.andThen_ok, List.map_toArray, List.map_cons, List.map_nil, hs, hy, hr]
  exact hK _ _ (h v' w' h2 h3)
theorem step_append_lst {ops : Array Oper} {o : Oper} {a : Act} {w : World} {K : Act → World → Prop} {Q : Exit → Act → World → Prop} {E : Prop} (hgd : o.guard = none) (s y : Operand)
    (ho : o.op = .call { callee := .builtin .append, args := #[s, y], argTypes := #[24, 24] })
    (base : Nat) (v x : Value) (n : Nat) (xs : List Value) (l : List Int) (hs : a.eval s = v) (hy : a.eval y = x) (hown : w.ownsRow base 3 1 v n xs) (hx : Lst w x l)
    (h63 : n + l.length ≤ 1000000) (hbase : base ≤ w.heap.size)
    (h : ∀ v' w', w'.ownsRow base 3 1 v' (n + l.length) (xs ++ row int1 l) → w.grownBy w' v.ownBlock → K (a.put o.dst v') w') :
    if Region.wanted o (yielded ops a.tmps) = true then Oper.wp Try.prog o a w K Q else E := by
  have hw : Region.wanted o (yielded ops a.tmps) = true := by simp [Region.wanted, hgd]
  rw [if_pos hw]
  obtain ⟨v', w', hr, h2, h3⟩ := append_lst w o.type v x n xs l hown hx h63 hbase
  unfold Oper.wp execOp
  simp only [ho, resolve, invoke, builtin, Sem.run_bind, Sem.run_pure, Result.andThen_ok, List.map_toArray, List.map_cons, List.map_nil, hs, hy, hr]
  exact h v' w' h2 h3

/-- a piece of what lies in memory -/
theorem Lst.tail {w : World} {b off c : Nat} {l : List Int} (k : Nat) (hk : k ≤ l.length) (hc : l.length ≤ c) (hm : c ≤ maxLen) (hb : b < w.heap.size) (h : ∀ (i : Nat) (x : Int), l[i]? = some x → w.cell? ⟨b, off + i, none⟩ = some (.int .i64 x)) :
    Lst w (.slice (some ⟨b, off + k, none⟩) (l.length - k) (c - k)) (l.drop k) := by
  refine ⟨_, _, by rw [List.length_drop], by rw [List.length_drop]; omega, by omega, (fun e => by cases e), Or.inr ⟨b, off + k, rfl, hb, fun i x hx => ?_⟩⟩
  rw [List.getElem?_drop] at hx
  rw [Nat.add_assoc]
  exact h _ _ hx
theorem Lst.off {w : World} {l : List Int} (a : Option Addr) (c : Nat) (hl : l = []) (hc : c ≤ maxLen) (ha : a = none → c = 0) : Lst w (.slice a 0 c) l := by
  subst hl
  exact ⟨a, c, rfl, Nat.zero_le _, hc, ha, Or.inl rfl⟩

/-- a list that was just laid -/
theorem lst_lit {w : World} {g : Nat} {T : TypeId} (l : List Int) (hl : l.length ≤ 1000) (hg : w.heap[g]? = some (.cells (row int1 l).toArray T (0, 0))) : Lst w (.slice (some ⟨g, 0, none⟩) l.length l.length) l :=
  ⟨_, _, rfl, Nat.le_refl _, by unfold maxLen; omega, (fun e => by cases e), Or.inr ⟨g, 0, rfl, lt_of_block hg, fun i x hx => blk_cell hg (by rw [Nat.zero_add]; simp [int1_at, hx])⟩⟩

theorem own_lit (w : World) (m : Nat) (l0 : List Int) (hl : l0.length ≤ 1000) (cs : Array Value) (hcs : cs = (row int1 l0).toArray) : ((w.drewN m).alloc (.cells cs 3)).ownsRow w.heap.size 3 1 (.slice (some ⟨w.heap.size, 0, none⟩) l0.length l0.length) l0.length (row int1 l0) := by
  subst hcs
  have := World.ownsRow_lit (base := w.heap.size) (e := 3) (size := 1) (w.drewN m) (row int1 l0).toArray l0.length (Nat.le_refl _) (by unfold maxLen; omega) (by simp [int1_row_len])
  simpa using this
theorem box_below (w : World) (m : Nat) (o : Obj) : Below w.heap.size w ((w.drewN m).alloc o) := (below_drewN (Below.refl _ _) m).alloc (Nat.le_refl _) _

theorem ret_int {a b : Int} (h : a = b) : Ending.returned (.int .i64 a) = Ending.returned (.int .i64 b) := by rw [h]

def I64 (x : Int) : Prop := -9223372036854775808 ≤ x ∧ x ≤ 9223372036854775807
theorem i64_of_wf {x : Int} (h : (Lit.int .i64 x).wf = true) : I64 x := by
  simp [Lit.wf, IntKind.min, IntKind.max, IntKind.signed, IntKind.bits] at h
  exact ⟨by omega, by omega⟩

theorem tmod_bounds (n : Int) {k : Int} (hk : 0 < k) : -k < n.tmod k ∧ n.tmod k < k := by
  constructor
  · have h2 := Int.lt_tmod_of_pos n hk; omega
  · exact Int.tmod_lt_of_pos n hk

set_option maxHeartbeats 1000000 in
theorem within_any (n : Int) (hn : I64 n) (lo hi : Nat) (hlh : lo ≤ hi) (hh : hi ≤ 1048576) (w : World) :
    Calls Try.prog 16 #[.int .i64 n, .int .i64 lo, .int .i64 hi] w fun e w' => ∃ r : Nat, e = .returned (.int .i64 r) ∧ lo ≤ r ∧ r ≤ hi ∧ w' = w := by
  obtain ⟨h1, h2⟩ := hn
  by_cases c1 : (lo : Int) ≤ n
  · by_cases c2 : n ≤ (hi : Int)
    · go_enter Try.func16, Try.ntmps16
      go_wp2
      go_ret
      exact ⟨n.toNat, ret_int (by omega), by omega, by omega, rfl⟩
    · obtain ⟨d, hd⟩ : ∃ d : Nat, (hi : Int) - (lo : Int) = d := ⟨hi - lo, by omega⟩
      have hwd : IntKind.i64.wrap ((d : Int) + 1) = (d : Int) + 1 := IntWalk.i64_in _ (by omega)
      have hne : ¬ ((d : Int) + 1 = 0) := by omega
      obtain ⟨t1, t2⟩ := tmod_bounds n (k := (d : Int) + 1) (by omega)
      have hnn : 0 ≤ n.tmod ((d : Int) + 1) := Int.tmod_nonneg _ (by omega)
      have HD := hid hd
      have c2' : decide (n ≤ (hi : Int)) = false := by simp; omega
      obtain ⟨t, ht⟩ : ∃ t : Int, n.tmod ((d : Int) + 1) = t := ⟨_, rfl⟩
      rw [ht] at t1 t2 hnn
      go_enter Try.func16, Try.ntmps16
      go_wp2
      go_ret
      exact ⟨lo + t.toNat, ret_int (by omega), by omega, by omega, rfl⟩
  · obtain ⟨d, hd⟩ : ∃ d : Nat, (hi : Int) - (lo : Int) = d := ⟨hi - lo, by omega⟩
    have hwd : IntKind.i64.wrap ((d : Int) + 1) = (d : Int) + 1 := IntWalk.i64_in _ (by omega)
    have hne : ¬ ((d : Int) + 1 = 0) := by omega
    obtain ⟨t1, t2⟩ := tmod_bounds n (k := (d : Int) + 1) (by omega)
    have c1' : decide ((lo : Int) ≤ n) = false := by simp; omega
    obtain ⟨t, ht⟩ : ∃ t : Int, n.tmod ((d : Int) + 1) = t := ⟨_, rfl⟩
    rw [ht] at t1 t2
    by_cases c3 : t < 0
    · go_enter Try.func16, Try.ntmps16
      go_wp2
      go_ret
      exact ⟨(lo + (t + hi - lo + 1)).toNat, ret_int (by omega), by omega, by omega, rfl⟩
    · have c3' : decide (t < 0) = false := by simp; omega
      go_enter Try.func16, Try.ntmps16
      go_wp2
      go_ret
      exact ⟨(lo + t).toNat, ret_int (by omega), by omega, by omega, rfl⟩


theorem within0 (n : Int) (hn : I64 n) (hi : Nat) (hh : hi ≤ 1048576) (w : World) :
    Calls Try.prog 16 #[.int .i64 n, .int .i64 0, .int .i64 hi] w fun e w' => ∃ r : Nat, e = .returned (.int .i64 r) ∧ r ≤ hi ∧ w' = w :=
  (within_any n hn 0 hi (Nat.zero_le _) hh w).mono fun _ _ ⟨r, a, _, b, c⟩ => ⟨r, a, b, c⟩
theorem within1 (n : Int) (hn : I64 n) (hi : Nat) (h1 : 1 ≤ hi) (hh : hi ≤ 1048576) (w : World) :
    Calls Try.prog 16 #[.int .i64 n, .int .i64 1, .int .i64 hi] w fun e w' => ∃ r : Nat, e = .returned (.int .i64 r) ∧ 1 ≤ r ∧ r ≤ hi ∧ w' = w :=
  (within_any n hn 1 hi h1 hh w)
set_option maxHeartbeats 2000000 in
theorem same_any (u v : Value) (l m : List Int) (w : World) (hu : Lst w u l) (hv : Lst w v m) (hl : l.length ≤ 1000) (hm : m.length ≤ 1000) :
    Calls Try.prog 9 #[u, v] w fun e w' => e = .returned (.bool (decide (l = m))) ∧ ∃ n, w' = w.drewN n := by
  obtain ⟨a, c, rfl, h1, h2, h3, h4⟩ := hu
  obtain ⟨a', c', rfl, h1', h2', h3', h4'⟩ := hv
  have H4 := hid h4
  have H4' := hid h4'
  clear h4 h3 h2 h4' h3' h2'
  by_cases hlm : l.length = m.length
  · have HLM := hid hlm
    rw [← hlm] at hm h1' ⊢
    clear hlm
    go_enter Try.func9, Try.ntmps9
    go_wp2
    go_loopw [5] (fun iv wr => ∃ (i n : Nat), iv = .int .i64 (i : Int) ∧ i ≤ l.length ∧ wr = w.drewN n ∧ Hid (∀ j, j < i → l[j]? = m[j]?)) (fun i _ => l.length - (intOf i).toNat)
    case atStart => exact ⟨0, 0, rfl, Nat.zero_le _, rfl, hid fun j hj => by omega⟩
    case round =>
      obtain ⟨i, n, rfl, hi, rfl, heq⟩ := hrel
      by_cases hlt : i < l.length
      · have hx : l[i]? = some l[i] := List.getElem?_eq_getElem hlt
        have hy : m[i]? = some (m[i]'(by rw [← HLM.out]; exact hlt)) := List.getElem?_eq_getElem (by rw [← HLM.out]; exact hlt)
        generalize l[i] = x at hx
        generalize m[i]'(by rw [← HLM.out]; exact hlt) = y at hy
        rcases H4.out with e | ⟨b, off, rfl, hb, hc⟩
        · subst e; simp at hlt
        rcases H4'.out with e | ⟨b', off', rfl, hb', hc'⟩
        · subst e; simp at hy
        have c1 : w.cell? ⟨b, off + i, none⟩ = some (.int .i64 x) := hc _ _ hx
        have c2 : w.cell? ⟨b', off' + i, none⟩ = some (.int .i64 y) := hc' _ _ hy
        have hlt' : (i : Int) < (l.length : Int) := by omega
        have HX := hid hx
        have HY := hid hy
        clear hx hy hc hc'
        by_cases q : x = y
        · subst q
          go_wp2_with fail
          go_quiet (fail)
          go_wp2
          go_roundw
          case rel => exact ⟨i + 1, n + nq, by go_num, by omega, by simp [go_sem], hid fun j hj => by
            by_cases c : j < i
            · exact heq.out j c
            · obtain rfl : j = i := by omega
              rw [HX.out, HY.out]⟩
          case measure => simp [intOf]; omega
        · have q' : (x != y) = true := by simp [q]
          have Q := hid q
          go_wp2_with fail
          go_quiet (fail)
          go_wp2
          go_ret
          refine ⟨?_, n + nq, by simp [go_sem]⟩
          rw [decide_eq_false (p := l = m) (fun e => Q.out (by have := HX.out; rw [e, HY.out] at this; injection this with this; exact this.symm))]
          rfl
      · have E : Hid (l = m) := hid (List.ext_getElem? fun j => by
          by_cases c : j < i
          · exact heq.out j c
          · rw [List.getElem?_eq_none (by omega), List.getElem?_eq_none (by rw [← HLM.out]; omega)])
        clear heq H4 H4' HLM
        go_wp2
        go_ret
        refine ⟨?_, n, rfl⟩
        rw [decide_eq_true E.out]
        rfl
  · have hlm' : ((l.length : Int) != (m.length : Int)) = true := by simp; omega
    have Q := hid hlm
    clear H4 H4' hlm
    go_enter Try.func9, Try.ntmps9
    go_wp2
    go_ret
    refine ⟨?_, 0, rfl⟩
    rw [decide_eq_false (p := l = m) (fun e => Q.out (by rw [e]))]
    rfl
end Go.Proofs.Ytlckfnnjplclmaa
