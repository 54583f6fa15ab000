/- Several texts in one. -/
import Derived.Test.YtckoglddhkbgkabGreatGc
import Derived.Deep.Onto
/- Lists of numbers of a call's own; numbers appended to them. -/
namespace Go.Proofs.YtckoglddhkbgkabGreat
open Go.ChangeShapes Go.WideShapes Go.ChangeAt Go.RowKit

def int1 (x : Int) : List Value := [.int .i64 x]
theorem int1_len : ∀ x, (int1 x).length = 1 := fun _ => rfl
theorem int1_one : ∀ x, ∀ v ∈ int1 x, v.oneCell' = true := fun x v h => by simp [int1] at h; subst h; rfl
theorem int1_at : ∀ (l : List Int) (j : Nat), (row int1 l)[j]? = (l[j]?).map fun x => .int .i64 x
  | [], j => by simp [row]
  | x :: r, 0 => by simp [row, int1]
  | x :: r, j + 1 => by simp [row, int1]; simpa using int1_at r j
theorem int1_row_len (l : List Int) : (row int1 l).length = l.length := by rw [row_length int1_len, Nat.mul_one]
theorem int1_set (M : List Int) (j : Nat) (y : Int) (hj : j < M.length) : (row int1 M).set j (.int .i64 y) = row int1 (M.set j y) := by
  have := row_set int1_len M j 0 M[j] y (.int .i64 y) (List.getElem?_eq_getElem hj) (by omega) rfl
  simpa using this

theorem info3i : (Tryz.prog.info? 3).map (fun i => (i.zero, i.size, i.bytes)) = some (some (.int .i64 0), 1, 8) := by kernel_rfl

/-- a list that lies in memory -/
def Lst (w : World) (v : Value) (l : List Int) : Prop :=
  ∃ a c, v = .slice a l.length c ∧ l.length ≤ c ∧ c ≤ maxLen ∧ (a = none → c = 0) ∧ (l = [] ∨ ∃ b off, a = some ⟨b, off, none⟩ ∧ b < w.heap.size ∧ ∀ (i : Nat) (x : Int), l[i]? = some x → w.cell? ⟨b, off + i, none⟩ = some (.int .i64 x))

theorem Lst.below {w w' : World} {v : Value} {l : List Int} (h : Lst w v l) (k : Below w.heap.size w w') : Lst w' v l := by
  obtain ⟨a, c, e, h1, h2, h3, h4⟩ := h
  refine ⟨a, c, e, h1, h2, h3, ?_⟩
  rcases h4 with h4 | ⟨b, off, e, hb, hc⟩
  · exact Or.inl h4
  · exact Or.inr ⟨b, off, e, Nat.lt_of_lt_of_le hb k.size, fun i x hx => (k.cell (p := ⟨b, _, none⟩) hb).trans (hc i x hx)⟩
theorem Lst.nil (w : World) : Lst w (.slice none 0 0) [] := ⟨none, 0, rfl, Nat.le_refl _, Nat.zero_le _, fun _ => rfl, Or.inl rfl⟩

/-- a list that the call owns -/
def Own (w : World) (B : Nat) (v : Value) (l : List Int) : Prop := w.ownsRow B 3 1 v l.length (row int1 l)

theorem Own.lst {w : World} {B : Nat} {v : Value} {l : List Int} (h : Own w B v l) : Lst w v l := by
  rcases h.2 with ⟨rfl, h0⟩ | ⟨g, cap, cur, rfl, hb, hg, h1, h2, h3, h4⟩
  · have := List.eq_nil_of_length_eq_zero h0
    subst this
    exact Lst.nil w
  · refine ⟨some ⟨g, 0, none⟩, cap, rfl, h1, h2, (fun e => by cases e), Or.inr ⟨g, 0, rfl, lt_of_block hg, fun i x hx => ?_⟩⟩
    have hi : i < l.length := (List.getElem?_eq_some_iff.1 hx).1
    have := World.ownsRow.cellAt h (g := g) (cap := cap) i (by omega)
    rw [int1_at, hx] at this
    simpa using this
theorem Own.base {w : World} {B B' : Nat} {v : Value} {l : List Int} (h : Own w B v l) (hb : B' ≤ B) : Own w B' v l := by
  refine ⟨h.1, ?_⟩
  rcases h.2 with h' | ⟨g, cap, cur, rfl, hb', r⟩
  · exact Or.inl h'
  · exact Or.inr ⟨g, cap, cur, rfl, Nat.le_trans hb hb', r⟩
theorem Own.nil (w : World) (B : Nat) : Own w B (.slice none 0 0) [] := World.ownsRow_nil w B 3 1
theorem below_grown {w w' : World} {v : Value} {n : Nat} {xs : List Value} {w0 : World} (h : w.ownsRow w0.heap.size 3 1 v n xs) (g : w.grownBy w' v.ownBlock) (k : Below w0.heap.size w0 w) : Below w0.heap.size w0 w' :=
  k.grown g k.size fun j hj => (h.lt j hj).1

theorem append_lst {base : Nat} (w : World) (ty : TypeId) (v x : Value) (n : Nat) (xs : List Value) (l : List Int) (hown : w.ownsRow base 3 1 v n xs) (hx : Lst w x l) (h63 : n + l.length ≤ 1000000) (hbase : base ≤ w.heap.size) :
    ∃ v' w', (Builtin.append_ #[23, 23] ty #[v, x]).run Tryz.prog w = .ok v' w' ∧ w'.ownsRow base 3 1 v' (n + l.length) (xs ++ row int1 l) ∧ w.grownBy w' v.ownBlock := by
  obtain ⟨i, hi, h0, h1, h2⟩ := info_parts info3i
  obtain ⟨a, c, rfl, q1, q2, q3, q4⟩ := hx
  cases a with
  | none =>
    have hc := q3 rfl
    subst hc
    have hl : l = [] := List.eq_nil_of_length_eq_zero (by omega)
    subst hl
    exact ⟨v, w, run_append_owned_none (P := Tryz.prog) w base 23 ty 3 i 1 Tryz.underlying23 hi v n xs hown, by simpa [row] using hown, ⟨rfl, rfl, rfl, Nat.le_refl _, fun _ _ _ => rfl⟩⟩
  | some ad =>
    obtain ⟨v', w', hr, p1, p2, _⟩ := run_append_own (P := Tryz.prog) w base 23 ty 3 i _ 1 8 Tryz.underlying23 hi h0 h1 h2 rfl (by decide) v n xs hown ad l.length c (row int1 l) (by rw [int1_row_len, Nat.mul_one]) (fun j u hu => by
      rw [int1_at] at hu
      cases hj : l[j]? with
      | none => simp [hj] at hu
      | some y =>
        simp [hj] at hu
        subst hu
        rcases q4 with rfl | ⟨b, off, e, hb, hc⟩
        · simp at hj
        · cases e
          have := hc j y hj
          rwa [show (⟨b, off, none⟩ : Addr).add j = ⟨b, off + j, none⟩ by unfold Addr.add; split <;> simp_all]) (row_one int1_one l) (by simp [maxLen]; omega) (by omega) hbase
    exact ⟨v', w', hr, p1, p2⟩

theorem wpList_append_lst {ops : Array Oper} {rest : List Oper} {o : Oper} {a : Act} {w : World} {Q : Exit → Act → World → Prop} (hgd : o.guard = none) (s y : Operand)
    (ho : o.op = .call { callee := .builtin .append, args := #[s, y], argTypes := #[23, 23] })
    (base : Nat) (v x : Value) (n : Nat) (xs : List Value) (l : List Int) (hs : a.eval s = v) (hy : a.eval y = x) (hown : w.ownsRow base 3 1 v n xs) (hx : Lst w x l)
    (h63 : n + l.length ≤ 1000000) (hbase : base ≤ w.heap.size)
    (h : ∀ v' w', w'.ownsRow base 3 1 v' (n + l.length) (xs ++ row int1 l) → w.grownBy w' v.ownBlock → wpList Tryz.prog ops Q rest (a.put o.dst v') w') : wpList Tryz.prog ops Q (o :: rest) a w := by
  refine wpList_plain hgd fun _ hK => ?_
  obtain ⟨v', w', hr, h2, h3⟩ := append_lst w o.type v x n xs l hown hx h63 hbase
  unfold Oper.wp execOp
  simp only [ho, resolve, invoke, builtin, Sem.run_bind, Sem.run_pure, Result.andThen_ok, List.map_toArray, List.map_cons, List.map_nil, hs, hy, hr]
  exact hK _ _ (h v' w' h2 h3)
theorem step_append_lst {ops : Array Oper} {o : Oper} {a : Act} {w : World} {K : Act → World → Prop} {Q : Exit → Act → World → Prop} {E : Prop} (hgd : o.guard = none) (s y : Operand)
    (ho : o.op = .call { callee := .builtin .append, args := #[s, y], argTypes := #[23, 23] })
    (base : Nat) (v x : Value) (n : Nat) (xs : List Value) (l : List Int) (hs : a.eval s = v) (hy : a.eval y = x) (hown : w.ownsRow base 3 1 v n xs) (hx : Lst w x l)
    (h63 : n + l.length ≤ 1000000) (hbase : base ≤ w.heap.size)
    (h : ∀ v' w', w'.ownsRow base 3 1 v' (n + l.length) (xs ++ row int1 l) → w.grownBy w' v.ownBlock → K (a.put o.dst v') w') :
    if Region.wanted o (yielded ops a.tmps) = true then Oper.wp Tryz.prog o a w K Q else E := by
  have hw : Region.wanted o (yielded ops a.tmps) = true := by simp [Region.wanted, hgd]
  rw [if_pos hw]
  obtain ⟨v', w', hr, h2, h3⟩ := append_lst w o.type v x n xs l hown hx h63 hbase
  unfold Oper.wp execOp
  simp only [ho, resolve, invoke, builtin, Sem.run_bind, Sem.run_pure, Result.andThen_ok, List.map_toArray, List.map_cons, List.map_nil, hs, hy, hr]
  exact h v' w' h2 h3

theorem own_lit0 (w : World) (B : Nat) (hB : B ≤ w.heap.size) (l0 : List Int) (hl : l0.length ≤ 1000) (cs : Array Value) (hcs : cs = (row int1 l0).toArray) : Own (w.alloc (.cells cs 3)) B (.slice (some ⟨w.heap.size, 0, none⟩) l0.length l0.length) l0 := by
  subst hcs
  exact World.ownsRow_lit (base := B) (e := 3) (size := 1) w (row int1 l0).toArray l0.length hB (by unfold maxLen; omega) (by simp [int1_row_len])

end Go.Proofs.YtckoglddhkbgkabGreat

/- The walks of chain's calls, where rings are rings. -/
namespace Go.Proofs.YtckoglddhkbgkabGreat
open Go.ChangeShapes Go.WideShapes Go.ChangeAt Go.RowKit
open Tr

/-- behind c comes d -/
def lnS (s : St) (c d : Int) : St := setS (setS s c 3 d) d 2 c
theorem ln_steps (s : St) (c d : Int) : (lnS s c d).steps = s.steps + 2 := by unfold lnS; rw [set_steps, set_steps]
theorem ln_most (s : St) (c d : Int) : (lnS s c d).most = s.most := by unfold lnS; rw [set_most, set_most]
theorem ln_sm {s : St} (ok : Ok s) (c d : Int) : Sm s (lnS s c d) := (Sm.set ok c 3 d).trans (Sm.set (Sm.set ok c 3 d).ok d 2 c)
/-- the same, of what cells have -/
def lnF (f : Nat → Nat → Int) (c d : Nat) : Nat → Nat → Int := put (put f c 3 (d : Int)) d 2 (c : Int)
theorem ln_has {s : St} {c d : Nat} (hc : LS s c = true) (hd : LS s d = true) : hasS (lnS s (c : Int) (d : Int)) = lnF (hasS s) c d := by
  unfold lnS lnF
  have h1 : hasS (setS s (c : Int) 3 (d : Int)) = put (hasS s) c 3 (d : Int) := set_has (j := 3) hc (by decide)
  have h2 := set_has (s := setS s (c : Int) 3 (d : Int)) (c := d) (j := 2) (v := (c : Int)) (by rw [set_ls]; exact hd) (by decide)
  rw [h1] at h2
  exact h2

section
variable {F : Nat → Prop} {w0 w w' : World} {pa pm : Nat} {s s' : St}
set_option maxHeartbeats 1000000 in
theorem nbrT (c d : Nat) (j i : Nat) (hj : j ≤ 9) (hi : i ≤ 9) (ok : Ok s) (lc : LS s c = true) (ld : LS s d = true) (h1 : hasS s c j = (d : Int)) (h2 : hasS s d i = (c : Int)) (h : Ex F w0 w pa pm s) (hs : s.steps ≤ 99999900) :
    Calls Tryz.prog 91 #[.pointer (some ⟨pa, 0, none⟩), .int .i64 (c : Int), .int .i64 (j : Int), .int .i64 (i : Int)] w fun e w' => e = .returned (.int .i64 (d : Int)) ∧ Ex F w0 w' pa pm (tk s 2) := by
  have C := hid (cellT (c : Int) (j : Int) h (by omega))
  rw [show cellS s (c : Int) (j : Int) = (d : Int) from cell_nat ok lc hj h1 ld] at C
  have D := hid (fun w1 (e : Ex F w0 w1 pa pm (tk s 1)) => cellT (d : Int) (i : Int) e (by show s.steps + 1 ≤ _; omega))
  rw [show cellS (tk s 1) (d : Int) (i : Int) = (c : Int) from cell_nat (s := s) ok ld hi h2 lc] at D
  have hd1 : ((d : Int) == -1) = false := by simp
  clear h h1 h2 ok lc ld hj hi
  generalize (j : Int) = j at *
  generalize (i : Int) = i at *
  generalize (c : Int) = c at *
  go_enter Tryz.func91, Tryz.ntmps91
  go_wp2_with fail
  refine C.out.mono ?_
  rintro e w1 ⟨rfl, e1⟩
  have E := hid (D.out w1 e1)
  clear C D e1
  go_wp2_with fail
  refine E.out.mono ?_
  rintro e w2 ⟨rfl, e2⟩
  have E2 := hid e2
  clear E e2
  go_wp2
  go_ret
  exact ⟨rfl, E2.out⟩
/-- the field is None -/
theorem nbrT_no (c : Int) (j i : Int) (h1 : cellS s c j = -1) (h : Ex F w0 w pa pm s) (hs : s.steps ≤ 99999900) :
    Calls Tryz.prog 91 #[.pointer (some ⟨pa, 0, none⟩), .int .i64 c, .int .i64 j, .int .i64 i] w fun e w' => e = .returned (.int .i64 (-1)) ∧ Ex F w0 w' pa pm (tk s 1) := by
  have C := hid (cellT c j h (by omega))
  rw [h1] at C
  clear h h1
  go_enter Tryz.func91, Tryz.ntmps91
  go_wp2_with fail
  refine C.out.mono ?_
  rintro e w1 ⟨rfl, e1⟩
  have E := hid e1
  clear C e1
  go_wp2
  go_ret
  exact ⟨rfl, E.out⟩
theorem cnextT (c d : Nat) (ok : Ok s) (lc : LS s c = true) (ld : LS s d = true) (h1 : hasS s c 3 = (d : Int)) (h2 : hasS s d 2 = (c : Int)) (h : Ex F w0 w pa pm s) (hs : s.steps ≤ 99999900) :
    Calls Tryz.prog 82 #[.pointer (some ⟨pa, 0, none⟩), .int .i64 (c : Int)] w fun e w' => e = .returned (.int .i64 (d : Int)) ∧ Ex F w0 w' pa pm (tk s 2) := by
  have N := hid (nbrT c d 3 2 (by decide) (by decide) ok lc ld h1 h2 h hs)
  clear h h1 h2 ok lc ld
  go_enter Tryz.func82, Tryz.ntmps82
  go_wp2_with fail
  refine N.out.mono ?_
  rintro e w1 ⟨rfl, e1⟩
  have E := hid e1
  clear N e1
  go_wp2
  go_ret
  exact ⟨rfl, E.out⟩
theorem aheadT (c d : Nat) (ok : Ok s) (lc : LS s c = true) (ld : LS s d = true) (h1 : hasS s c 2 = (d : Int)) (h2 : hasS s d 3 = (c : Int)) (h : Ex F w0 w pa pm s) (hs : s.steps ≤ 99999900) :
    Calls Tryz.prog 83 #[.pointer (some ⟨pa, 0, none⟩), .int .i64 (c : Int)] w fun e w' => e = .returned (.int .i64 (d : Int)) ∧ Ex F w0 w' pa pm (tk s 2) := by
  have N := hid (nbrT c d 2 3 (by decide) (by decide) ok lc ld h1 h2 h hs)
  clear h h1 h2 ok lc ld
  go_enter Tryz.func83, Tryz.ntmps83
  go_wp2_with fail
  refine N.out.mono ?_
  rintro e w1 ⟨rfl, e1⟩
  have E := hid e1
  clear N e1
  go_wp2
  go_ret
  exact ⟨rfl, E.out⟩
theorem cnextT_no (c : Int) (h1 : cellS s c 3 = -1) (h : Ex F w0 w pa pm s) (hs : s.steps ≤ 99999900) :
    Calls Tryz.prog 82 #[.pointer (some ⟨pa, 0, none⟩), .int .i64 c] w fun e w' => e = .returned (.int .i64 (-1)) ∧ Ex F w0 w' pa pm (tk s 1) := by
  have N := hid (nbrT_no c 3 2 h1 h hs)
  clear h h1
  go_enter Tryz.func82, Tryz.ntmps82
  go_wp2_with fail
  refine N.out.mono ?_
  rintro e w1 ⟨rfl, e1⟩
  have E := hid e1
  clear N e1
  go_wp2
  go_ret
  exact ⟨rfl, E.out⟩
theorem aheadT_no (c : Int) (h1 : cellS s c 2 = -1) (h : Ex F w0 w pa pm s) (hs : s.steps ≤ 99999900) :
    Calls Tryz.prog 83 #[.pointer (some ⟨pa, 0, none⟩), .int .i64 c] w fun e w' => e = .returned (.int .i64 (-1)) ∧ Ex F w0 w' pa pm (tk s 1) := by
  have N := hid (nbrT_no c 2 3 h1 h hs)
  clear h h1
  go_enter Tryz.func83, Tryz.ntmps83
  go_wp2_with fail
  refine N.out.mono ?_
  rintro e w1 ⟨rfl, e1⟩
  have E := hid e1
  clear N e1
  go_wp2
  go_ret
  exact ⟨rfl, E.out⟩
theorem clinkT (c d : Int) (h : Ex F w0 w pa pm s) (hs : s.steps ≤ 99999900) :
    Calls Tryz.prog 81 #[.pointer (some ⟨pa, 0, none⟩), .int .i64 c, .int .i64 d] w fun e w' => e = .returned (.tuple #[]) ∧ Ex F w0 w' pa pm (lnS s c d) := by
  have S := hid (setT c 3 d h (by omega))
  generalize mayS s c 3 = m at S
  have T := hid (fun w1 (e : Ex F w0 w1 pa pm (setS s c 3 d)) => setT d 2 c e (by rw [set_steps]; omega))
  generalize mayS (setS s c 3 d) d 2 = m2 at T
  clear h
  go_enter Tryz.func81, Tryz.ntmps81
  go_wp2_with fail
  refine S.out.mono ?_
  rintro e w1 ⟨rfl, e1⟩
  have E := hid (T.out w1 e1)
  clear S T e1
  go_wp2_with fail
  refine E.out.mono ?_
  rintro e w2 ⟨rfl, e2⟩
  have E2 := hid e2
  clear E e2
  go_wp2
  go_end0
  exact ⟨rfl, E2.out⟩
/-- c leaves its ring: p is ahead of it, r behind it -/
theorem cleaveT (c p r : Nat) (ok : Ok s) (lc : LS s c = true) (lp : LS s p = true) (lr : LS s r = true) (h1 : hasS s c 2 = (p : Int)) (h2 : hasS s p 3 = (c : Int)) (h3 : hasS s c 3 = (r : Int)) (h4 : hasS s r 2 = (c : Int)) (h : Ex F w0 w pa pm s) (hs : s.steps ≤ 99999800) :
    Calls Tryz.prog 80 #[.pointer (some ⟨pa, 0, none⟩), .int .i64 (c : Int)] w fun e w' => e = .returned (.int .i64 (r : Int)) ∧ Ex F w0 w' pa pm (lnS (tk s 4) (p : Int) (r : Int)) := by
  have A := hid (aheadT c p ok lc lp h1 h2 h (by omega))
  have N := hid (fun w1 (e : Ex F w0 w1 pa pm (tk s 2)) => cnextT (s := tk s 2) c r (Sm.tk ok 2).ok lc lr h3 h4 e (by show s.steps + 2 ≤ _; omega))
  have L := hid (fun w1 (e : Ex F w0 w1 pa pm (tk s 4)) => clinkT (s := tk s 4) (p : Int) (r : Int) e (by show s.steps + 4 ≤ _; omega))
  clear h h1 h2 h3 h4 ok lc lp lr
  go_enter Tryz.func80, Tryz.ntmps80
  go_wp2_with fail
  refine A.out.mono ?_
  rintro e w1 ⟨rfl, e1⟩
  have B := hid (N.out w1 e1)
  clear A N e1
  go_wp2_with fail
  refine B.out.mono ?_
  rintro e w2 ⟨rfl, e2⟩
  have D := hid (L.out w2 e2)
  clear B L e2
  go_wp2_with fail
  refine D.out.mono ?_
  rintro e w3 ⟨rfl, e3⟩
  have E := hid e3
  clear D e3
  go_wp2
  go_ret
  exact ⟨rfl, E.out⟩
/-- the same, and it is a ring of its own -/
theorem outT (c p r : Nat) (ok : Ok s) (lc : LS s c = true) (lp : LS s p = true) (lr : LS s r = true) (h1 : hasS s c 2 = (p : Int)) (h2 : hasS s p 3 = (c : Int)) (h3 : hasS s c 3 = (r : Int)) (h4 : hasS s r 2 = (c : Int)) (h : Ex F w0 w pa pm s) (hs : s.steps ≤ 99999700) :
    Calls Tryz.prog 65 #[.pointer (some ⟨pa, 0, none⟩), .int .i64 (c : Int)] w fun e w' => e = .returned (.int .i64 (if r = c then -1 else (r : Int))) ∧ Ex F w0 w' pa pm (lnS (lnS (tk s 4) (p : Int) (r : Int)) (c : Int) (c : Int)) := by
  have A := hid (cleaveT c p r ok lc lp lr h1 h2 h3 h4 h (by omega))
  have L := hid (fun w1 (e : Ex F w0 w1 pa pm (lnS (tk s 4) (p : Int) (r : Int))) => clinkT (c : Int) (c : Int) e (by rw [ln_steps]; show s.steps + 4 + 2 ≤ _; omega))
  clear h h1 h2 h3 h4 ok lc lp lr
  by_cases q : r = c
  · rw [if_pos q]
    subst q
    go_enter Tryz.func65, Tryz.ntmps65
    go_wp2_with fail
    refine A.out.mono ?_
    rintro e w1 ⟨rfl, e1⟩
    have B := hid (L.out w1 e1)
    clear A L e1
    go_wp2_with fail
    refine B.out.mono ?_
    rintro e w2 ⟨rfl, e2⟩
    have E := hid e2
    clear B e2
    go_wp2
    go_ret
    exact ⟨rfl, E.out⟩
  · rw [if_neg q]
    have hne : ((r : Int) == (c : Int)) = false := by simp; omega
    clear q
    go_enter Tryz.func65, Tryz.ntmps65
    go_wp2_with fail
    refine A.out.mono ?_
    rintro e w1 ⟨rfl, e1⟩
    have B := hid (L.out w1 e1)
    clear A L e1
    go_wp2_with fail
    refine B.out.mono ?_
    rintro e w2 ⟨rfl, e2⟩
    have E := hid e2
    clear B e2
    go_wp2
    go_ret
    exact ⟨rfl, E.out⟩
/-- two rings are one: r is behind c, p ahead of d -/
theorem joinT (c d p r : Nat) (ok : Ok s) (lc : LS s c = true) (ld : LS s d = true) (lp : LS s p = true) (lr : LS s r = true) (h1 : hasS s c 3 = (r : Int)) (h2 : hasS s r 2 = (c : Int)) (h3 : hasS s d 2 = (p : Int)) (h4 : hasS s p 3 = (d : Int)) (h : Ex F w0 w pa pm s) (hs : s.steps ≤ 99999700) :
    Calls Tryz.prog 66 #[.pointer (some ⟨pa, 0, none⟩), .int .i64 (c : Int), .int .i64 (d : Int)] w fun e w' => e = .returned (.tuple #[]) ∧ Ex F w0 w' pa pm (lnS (lnS (tk s 4) (c : Int) (d : Int)) (p : Int) (r : Int)) := by
  have A := hid (cnextT c r ok lc lr h1 h2 h (by omega))
  have N := hid (fun w1 (e : Ex F w0 w1 pa pm (tk s 2)) => aheadT (s := tk s 2) d p (Sm.tk ok 2).ok ld lp h3 h4 e (by show s.steps + 2 ≤ _; omega))
  have L := hid (fun w1 (e : Ex F w0 w1 pa pm (tk s 4)) => clinkT (s := tk s 4) (c : Int) (d : Int) e (by show s.steps + 4 ≤ _; omega))
  have M := hid (fun w1 (e : Ex F w0 w1 pa pm (lnS (tk s 4) (c : Int) (d : Int))) => clinkT (p : Int) (r : Int) e (by rw [ln_steps]; show s.steps + 4 + 2 ≤ _; omega))
  have hr1 : ((r : Int) == -1) = false := by simp
  have hp1 : ((p : Int) == -1) = false := by simp
  clear h h1 h2 h3 h4 ok lc ld lp lr
  go_enter Tryz.func66, Tryz.ntmps66
  go_wp2_with fail
  refine A.out.mono ?_
  rintro e w1 ⟨rfl, e1⟩
  have B := hid (N.out w1 e1)
  clear A N e1
  go_wp2_with fail
  refine B.out.mono ?_
  rintro e w2 ⟨rfl, e2⟩
  have D := hid (L.out w2 e2)
  clear B L e2
  go_wp2_with fail
  refine D.out.mono ?_
  rintro e w3 ⟨rfl, e3⟩
  have E := hid (M.out w3 e3)
  clear D M e3
  go_wp2_with fail
  refine E.out.mono ?_
  rintro e w4 ⟨rfl, e4⟩
  have E4 := hid e4
  clear E e4
  go_wp2
  go_end0
  exact ⟨rfl, E4.out⟩
end
end Go.Proofs.YtckoglddhkbgkabGreat

/- Rings as plain data: what cells have to their right and left. -/
namespace Go.Proofs.YtckoglddhkbgkabGreat
open Go.ChangeShapes Go.WideShapes Go.ChangeAt Go.RowKit
open Tr

/-- from a along these to b, to the right and back -/
def Pt (f : Nat → Nat → Int) : Nat → List Nat → Nat → Prop
  | a, [], b => f a 3 = (b : Int) ∧ f b 2 = (a : Int)
  | a, x :: r, b => (f a 3 = (x : Int) ∧ f x 2 = (a : Int)) ∧ Pt f x r b
/-- a list that is a ring -/
def Ring (f : Nat → Nat → Int) : List Nat → Prop
  | [] => True
  | c :: x => Pt f c x c
theorem pt_app {f : Nat → Nat → Int} : ∀ {x : List Nat} {a y b : Nat} {z : List Nat}, Pt f a (x ++ y :: z) b ↔ Pt f a x y ∧ Pt f y z b
  | [], a, y, b, z => Iff.rfl
  | c :: x, a, y, b, z => by
    show _ ∧ Pt f c (x ++ y :: z) b ↔ (_ ∧ Pt f c x y) ∧ _
    rw [pt_app]
    exact and_assoc.symm
theorem pt_like {f g : Nat → Nat → Int} : ∀ {x : List Nat} {a b : Nat}, Pt f a x b → (∀ c ∈ a :: x, g c 3 = f c 3) → (∀ c ∈ x ++ [b], g c 2 = f c 2) → Pt g a x b
  | [], a, b, h, h3, h2 => ⟨by rw [h3 a (by simp)]; exact h.1, by rw [h2 b (by simp)]; exact h.2⟩
  | c :: x, a, b, h, h3, h2 => ⟨⟨by rw [h3 a (by simp)]; exact h.1.1, by rw [h2 c (by simp)]; exact h.1.2⟩, pt_like h.2 (fun d hd => h3 d (List.mem_cons_of_mem _ hd)) (fun d hd => h2 d (by simp only [List.cons_append, List.mem_cons]; exact Or.inr hd))⟩
theorem ring_rot {f : Nat → Nat → Int} {x y : List Nat} (h : Ring f (x ++ y)) : Ring f (y ++ x) := by
  cases x with
  | nil => simpa using h
  | cons a x =>
    cases y with
    | nil => simpa using h
    | cons b y =>
      have h1 : Pt f a (x ++ b :: y) a := h
      have h2 := pt_app.1 h1
      show Pt f b (y ++ a :: x) b
      exact pt_app.2 ⟨h2.2, h2.1⟩
theorem ring_like {f g : Nat → Nat → Int} {l : List Nat} (h : Ring f l) (hf : ∀ c ∈ l, g c 3 = f c 3 ∧ g c 2 = f c 2) : Ring g l := by
  cases l with
  | nil => trivial
  | cons a x =>
    refine pt_like (x := x) (a := a) (b := a) h (fun c hc => (hf c hc).1) (fun c hc => (hf c ?_).2)
    rw [List.mem_append, List.mem_singleton] at hc
    rw [List.mem_cons]
    exact hc.elim Or.inr Or.inl
/-- who is ahead of the first, who behind it -/
def lastR (c : Nat) (x : List Nat) : Nat := x.getLast?.getD c
def nextR (c : Nat) (x : List Nat) : Nat := x.head?.getD c
theorem last_snoc (c : Nat) (x : List Nat) (p : Nat) : lastR c (x ++ [p]) = p := by simp [lastR]
theorem last_mem (c : Nat) (x : List Nat) : lastR c x ∈ c :: x := by
  unfold lastR
  cases h : x.getLast? with
  | none => simp
  | some p => simp [List.mem_of_getLast? h]
theorem next_mem (c : Nat) (x : List Nat) : nextR c x ∈ c :: x := by
  cases x with
  | nil => simp [nextR]
  | cons a x => simp [nextR]
theorem pt_next {f : Nat → Nat → Int} {c b : Nat} {x : List Nat} (h : Pt f c x b) : f c 3 = (nextR b x : Int) ∧ f (nextR b x) 2 = (c : Int) := by
  cases x with
  | nil => exact h
  | cons a x => exact h.1
theorem pt_last {f : Nat → Nat → Int} : ∀ {x : List Nat} {c b : Nat}, Pt f c x b → f (lastR c x) 3 = (b : Int) ∧ f b 2 = (lastR c x : Int)
  | [], c, b, h => h
  | a :: x, c, b, h => by
    have := pt_last h.2
    have e : lastR c (a :: x) = lastR a x := by
      unfold lastR
      cases x with
      | nil => rfl
      | cons d x => rw [List.getLast?_cons_cons]; cases h : (d :: x).getLast? with
        | none => simp at h
        | some p => rfl
    rw [e]; exact this
theorem ring_links {f : Nat → Nat → Int} {c : Nat} {x : List Nat} (h : Ring f (c :: x)) : f c 3 = (nextR c x : Int) ∧ f (nextR c x) 2 = (c : Int) ∧ f c 2 = (lastR c x : Int) ∧ f (lastR c x) 3 = (c : Int) := by
  have h1 := pt_next (f := f) (x := x) h
  have h2 := pt_last (f := f) (x := x) h
  exact ⟨h1.1, h1.2, h2.2, h2.1⟩
theorem ln_3 {f : Nat → Nat → Int} {c d a : Nat} : lnF f c d a 3 = if a = c then (d : Int) else f a 3 := by
  unfold lnF
  rw [put_nj (by decide)]
  by_cases e : a = c
  · rw [e, put_at, if_pos rfl]
  · rw [put_ne e, if_neg e]
theorem ln_2 {f : Nat → Nat → Int} {c d a : Nat} : lnF f c d a 2 = if a = d then (c : Int) else f a 2 := by
  unfold lnF
  by_cases e : a = d
  · rw [e, put_at, if_pos rfl]
  · rw [put_ne e, if_neg e, put_nj (by decide)]
theorem ln_o {f : Nat → Nat → Int} {c d a j : Nat} (h2 : j ≠ 2) (h3 : j ≠ 3) : lnF f c d a j = f a j := by
  unfold lnF
  rw [put_nj h2, put_nj h3]
/-- c has left its ring -/
theorem ring_out {f : Nat → Nat → Int} {c : Nat} {x : List Nat} (h : Ring f (c :: x)) (hn : (c :: x).Nodup) : Ring (lnF (lnF f (lastR c x) (nextR c x)) c c) x ∧ Ring (lnF (lnF f (lastR c x) (nextR c x)) c c) [c] := by
  refine ⟨?_, ⟨by rw [ln_3, if_pos rfl], by rw [ln_2, if_pos rfl]⟩⟩
  rw [List.nodup_cons] at hn
  cases x with
  | nil => trivial
  | cons a y =>
    have h1 : Pt f a y c := h.2
    show Pt _ a y a
    have hca : c ≠ a := fun e => hn.1 (by simp [e])
    rcases List.eq_nil_or_concat y with rfl | ⟨z, p, rfl⟩
    · have hl : lastR c [a] = a := rfl
      have hx : nextR c [a] = a := rfl
      rw [hl, hx]
      exact ⟨by rw [ln_3, if_neg hca.symm, ln_3, if_pos rfl], by rw [ln_2, if_neg hca.symm, ln_2, if_pos rfl]⟩
    · rw [List.concat_eq_append] at *
      have hl : lastR c (a :: (z ++ [p])) = p := by rw [← List.cons_append]; exact last_snoc _ _ _
      have hx : nextR c (a :: (z ++ [p])) = a := rfl
      rw [hl, hx]
      have h2 := pt_app.1 h1
      have hcp : c ≠ p := fun e => hn.1 (by simp [e])
      have hn2 := hn.2
      rw [List.nodup_cons] at hn2
      have hap : a ≠ p := fun e => hn2.1 (by simp [e])
      have hz : ∀ d ∈ z, d ≠ c ∧ d ≠ p ∧ d ≠ a := fun d hd => ⟨fun e => hn.1 (by simp [← e, hd]), fun e => by
        have := (List.nodup_append.1 hn2.2).2.2 d hd p (by simp)
        exact this e, fun e => hn2.1 (by simp [← e, hd])⟩
      refine pt_app.2 ⟨pt_like h2.1 (fun d hd => ?_) (fun d hd => ?_), ?_⟩
      · have h3 : d ≠ c ∧ d ≠ p := by
          rcases List.mem_cons.1 hd with rfl | hd
          · exact ⟨hca.symm, hap⟩
          · exact ⟨(hz d hd).1, (hz d hd).2.1⟩
        rw [ln_3, if_neg h3.1, ln_3, if_neg h3.2]
      · have h3 : d ≠ c ∧ d ≠ a := by
          rcases List.mem_append.1 hd with hd | hd
          · exact ⟨(hz d hd).1, (hz d hd).2.2⟩
          · have hd : d = p := by simpa using hd
            rw [hd]
            exact ⟨hcp.symm, hap.symm⟩
        rw [ln_2, if_neg h3.1, ln_2, if_neg h3.2]
      · exact ⟨by rw [ln_3, if_neg hcp.symm, ln_3, if_pos rfl], by rw [ln_2, if_neg hca.symm, ln_2, if_pos rfl]⟩
/-- two rings are one -/
theorem ring_join {f : Nat → Nat → Int} {c d : Nat} {x y : List Nat} (h : Ring f (c :: x)) (k : Ring f (d :: y)) (hn : ((c :: x) ++ (d :: y)).Nodup) : Ring (lnF (lnF f c d) (lastR d y) (nextR c x)) (c :: d :: (y ++ x)) := by
  rw [List.nodup_append] at hn
  obtain ⟨n1, n2, n3⟩ := hn
  rw [List.nodup_cons] at n1 n2
  have hcd : c ≠ d := n3 c (by simp) d (by simp)
  have hp := last_mem d y
  have hr := next_mem c x
  have hpc : lastR d y ≠ c := fun e => n3 c (by simp) _ hp e.symm
  have hrd : nextR c x ≠ d := fun e => n3 _ hr d (by simp) e
  show (lnF (lnF f c d) (lastR d y) (nextR c x) c 3 = (d : Int) ∧ lnF (lnF f c d) (lastR d y) (nextR c x) d 2 = (c : Int)) ∧ Pt (lnF (lnF f c d) (lastR d y) (nextR c x)) d (y ++ x) c
  refine ⟨⟨by rw [ln_3, if_neg hpc.symm, ln_3, if_pos rfl], by rw [ln_2, if_neg hrd.symm, ln_2, if_pos rfl]⟩, ?_⟩
  have L : Pt (lnF (lnF f c d) (lastR d y) (nextR c x)) d y (nextR c x) := by
    have k1 : Pt f d y d := k
    rcases List.eq_nil_or_concat y with rfl | ⟨z, p, rfl⟩
    · exact ⟨by rw [show lastR d [] = d from rfl, ln_3, if_pos rfl], by rw [show lastR d [] = d from rfl, ln_2, if_pos rfl]⟩
    · rw [List.concat_eq_append] at *
      rw [last_snoc] at *
      have k2 := pt_app.1 k1
      have hnz := List.nodup_append.1 n2.2
      refine pt_app.2 ⟨pt_like k2.1 (fun e he => ?_) (fun e he => ?_), ⟨by rw [ln_3, if_pos rfl], by rw [ln_2, if_pos rfl]⟩⟩
      · have h3 : e ≠ p ∧ e ≠ c := by
          rcases List.mem_cons.1 he with rfl | he
          · exact ⟨fun q => n2.1 (by simp [q]), hcd.symm⟩
          · exact ⟨fun q => hnz.2.2 e he p (by simp) q, fun q => n3 c (by simp) e (by simp [he]) q.symm⟩
        rw [ln_3, if_neg h3.1, ln_3, if_neg h3.2]
      · have hey : e ∈ z ++ [p] := he
        have h3 : e ≠ nextR c x ∧ e ≠ d := ⟨fun q => n3 _ hr e (by simp only [List.mem_cons]; exact Or.inr hey) q.symm, fun q => n2.1 (q ▸ hey)⟩
        rw [ln_2, if_neg h3.1, ln_2, if_neg h3.2]
  cases x with
  | nil => rw [List.append_nil]; exact L
  | cons r v =>
    have h1 : Pt f r v c := h.2
    refine pt_app.2 ⟨L, pt_like h1 (fun e he => ?_) (fun e he => ?_)⟩
    · have h3 : e ≠ lastR d y ∧ e ≠ c := ⟨fun q => n3 e (by simp only [List.mem_cons]; exact Or.inr (List.mem_cons.1 he)) _ hp q, fun q => n1.1 (q ▸ he)⟩
      rw [ln_3, if_neg h3.1, ln_3, if_neg h3.2]
    · have hev : e = c ∨ e ∈ v := by
        rcases List.mem_append.1 he with he | he
        · exact Or.inr he
        · exact Or.inl (by simpa using he)
      have n1' := List.nodup_cons.1 n1.2
      have h3 : e ≠ nextR c (r :: v) ∧ e ≠ d := by
        rw [show nextR c (r :: v) = r from rfl]
        rcases hev with rfl | hv
        · exact ⟨fun q => n1.1 (by simp [q]), hcd⟩
        · exact ⟨fun q => n1'.1 (q ▸ hv), fun q => n3 e (by simp [hv]) d (by simp) q⟩
      rw [ln_2, if_neg h3.1, ln_2, if_neg h3.2]
end Go.Proofs.YtckoglddhkbgkabGreat

/- The walk of chain's All, of a ring. -/
namespace Go.Proofs.YtckoglddhkbgkabGreat
open Go.ChangeShapes Go.WideShapes Go.ChangeAt Go.RowKit
open Tr

def nd1 (l : List Nat) : List Int := l.map fun c : Nat => (c : Int)
theorem nd1_len (l : List Nat) : (nd1 l).length = l.length := by simp [nd1]
theorem nd1_at {l : List Nat} {j : Nat} {x : Nat} (h : l[j]? = some x) : (nd1 l)[j]? = some (x : Int) := by simp [nd1, h]
def lenV : Value → Nat
  | .slice _ n _ => n
  | _ => 0
theorem pt_at {f : Nat → Nat → Int} : ∀ {x : List Nat} {a b : Nat}, Pt f a x b → ∀ (j : Nat) {y z : Nat}, (a :: x)[j]? = some y → (x ++ [b])[j]? = some z → f y 3 = (z : Int) ∧ f z 2 = (y : Int)
  | [], a, b, h, j, y, z, hy, hz => by
    cases j with
    | zero => simp at hy hz; subst hy hz; exact h
    | succ j => simp at hy
  | c :: x, a, b, h, j, y, z, hy, hz => by
    cases j with
    | zero => simp at hy hz; subst hy hz; exact h.1
    | succ j => exact pt_at h.2 j (by simpa using hy) (by simpa using hz)
theorem ring_at {f : Nat → Nat → Int} {c : Nat} {x : List Nat} (h : Ring f (c :: x)) (j : Nat) {y z : Nat} (hy : (c :: x)[j]? = some y) (hz : (x ++ [c])[j]? = some z) : f y 3 = (z : Int) ∧ f z 2 = (y : Int) := pt_at h j hy hz

section
variable {F : Nat → Prop} {w w' : World} {pa pm : Nat} {s : St}
set_option maxHeartbeats 2000000 in
theorem callT (c : Nat) (x : List Nat) (hr : Ring (hasS s) (c :: x)) (hn : (c :: x).Nodup) (hl : ∀ d ∈ c :: x, LS s d = true) (ok : Ok s) (hlen : x.length ≤ 40000) (h : IsA w F pa pm s) (hs : s.steps ≤ 99900000) :
    Calls Tryz.prog 86 #[.pointer (some ⟨pa, 0, none⟩), .int .i64 (c : Int)] w fun e w' =>
      ∃ v, e = .returned v ∧ Own w' w.heap.size v (nd1 (c :: x)) ∧ IsA w' F pa pm (tk s (2 + 2 * x.length)) ∧ Kept F w w' := by
  have HR := hid hr
  have HN := hid hn
  have HLV := hid hl
  have OK := hid ok
  have HFL := hid h.lt
  have LV := hid (liveT (c : Int) (Ex.start h))
  rw [show liveS s (c : Int) = true from hl c (by simp)] at LV
  obtain ⟨q0, hq0⟩ : ∃ q0, (x ++ [c])[0]? = some q0 := ⟨(x ++ [c])[0]'(by simp), List.getElem?_eq_getElem _⟩
  have R0 := ring_at hr 0 (y := c) (by simp) hq0
  have lq : ∀ (j : Nat) (z : Nat), (x ++ [c])[j]? = some z → LS s z = true := fun j z hz => by
    have := List.mem_of_getElem? hz
    rw [List.mem_append, List.mem_singleton] at this
    exact hl z (by rw [List.mem_cons]; exact this.elim Or.inr Or.inl)
  have LQ := hid lq
  have W1 := hid ((Ex.start h).plain ((Kept.refl _ _).alloc (.cells #[.int .i64 (c : Int)] 3)))
  have N0 := hid (cnextT c q0 ok (hl c (by simp)) (lq 0 q0 hq0) R0.1 R0.2 (Ex.start W1.out.is) (by omega))
  have O1 := hid (own_lit0 w w.heap.size (Nat.le_refl _) [(c : Int)] (by simp) #[.int .i64 (c : Int)] rfl)
  have Q0 := hid hq0
  have hsz : w.heap.size < (w.alloc (.cells #[.int .i64 (c : Int)] 3)).heap.size := by simp
  obtain ⟨ti, y0, y1, y2, y3⟩ := info_parts info3i
  have Z0 := hid y0
  have Z1 := hid y1
  have Z2 := hid y2
  have Z3 := hid y3
  clear hr hn hl ok h lq hq0 R0 y0 y1 y2 y3
  go_enter Tryz.func86, Tryz.ntmps86
  go_wp2_with fail
  refine LV.out.mono ?_
  rintro e w1 ⟨rfl, rfl⟩
  clear LV
  go_wp2_with fail
  refine N0.out.mono ?_
  rintro e w2 ⟨rfl, e2⟩
  have O2 := hid (show Own w2 w1.heap.size (.slice (some ⟨w1.heap.size, 0, none⟩) 1 1) (nd1 (c :: x.take 0)) from own_kept O1.out e2.kept (fun i hi hF => by have := (World.ownsRow.lt O1.out i hi).1; have := HFL.out i hF; omega))
  have K2 := hid (show Kept F w1 w2 from ((Kept.refl F w1).alloc (.cells #[.int .i64 (c : Int)] 3)).trans' e2.kept)
  have A2 := hid e2.is
  have hz2 : w1.heap.size < w2.heap.size := by have := e2.kept.size; omega
  clear e2 N0 O1 W1 hsz
  go_wp2_with fail
  go_loopw [5, 6] (fun lv dv wr => ∃ (j d : Nat), dv = .int .i64 (d : Int) ∧ j ≤ x.length ∧ Hid ((x ++ [c])[j]? = some d) ∧ Hid (Own wr w1.heap.size lv (nd1 (c :: x.take j))) ∧ Hid (IsA wr F pa pm (tk s (2 + 2 * j))) ∧ Hid (Kept F w1 wr)) (fun lv _ _ => x.length + 1 - lenV lv)
  case atStart => exact ⟨0, q0, rfl, Nat.zero_le _, Q0, O2, A2, K2⟩
  case round =>
    clear O2 A2 K2
    obtain ⟨j, d, rfl, hj, hd, ho, hA, hK⟩ := hrel
    obtain ⟨la, lc, rfl⟩ := own_form ho.out
    have hnl : (nd1 (c :: x.take j)).length = j + 1 := by simp [nd1]; omega
    by_cases hlt : j < x.length
    · have hdx : x[j]? = some d := by have := hd.out; rwa [List.getElem?_append_left hlt] at this
      have hdc : d ≠ c := fun e => by
        have := HN.out
        rw [List.nodup_cons] at this
        exact this.1 (e ▸ List.mem_of_getElem? hdx)
      have hne : ((d : Int) != (c : Int)) = true := by simp; omega
      have hn1 : ((d : Int) != -1) = true := by simp
      obtain ⟨z, hz⟩ : ∃ z, (x ++ [c])[j + 1]? = some z := ⟨(x ++ [c])[j + 1]'(by simp; omega), List.getElem?_eq_getElem _⟩
      have R := ring_at HR.out (j + 1) (y := d) (by simpa using hdx) hz
      have HZ := hid hz
      have TK := hid (show nd1 (c :: x.take (j + 1)) = nd1 (c :: x.take j) ++ [(d : Int)] by rw [List.take_add_one, hdx]; simp [nd1])
      have LD := hid (HLV.out d (List.mem_cons_of_mem _ (List.mem_of_getElem? hdx)))
      have N1 := hid (fun w3 (A3 : IsA w3 F pa pm (tk s (2 + 2 * j))) => cnextT (s := tk s (2 + 2 * j)) d z (Sm.tk OK.out _).ok LD.out (LQ.out (j + 1) z hz) R.1 R.2 (Ex.start A3) (by show s.steps + _ ≤ _; omega))
      have NW : Hid (∀ i u, [Value.int .i64 (d : Int)][i]? = some u → (wr.alloc (.cells #[.int .i64 (d : Int)] 3)).cell? ((⟨wr.heap.size, 0, none⟩ : Addr).add i) = some u) := hid (World.news_of_block (heap_alloc_new wr (.cells #[.int .i64 (d : Int)] 3)))
      have HLT := hid (fun i hi => World.ownsRow.lt ho.out i hi)
      have hzw : w1.heap.size ≤ wr.heap.size := hK.out.size
      clear hdx hdc hz R hd
      go_wp2_with (at_builtin; refine wpList_append_lies _ rfl (.tmp 30) (.tmp 32) 23 rfl w1.heap.size 3 ti _ 1 8 Tryz.underlying23 Z0.out Z1.out Z2.out Z3.out rfl (by decide) (.slice la (nd1 (c :: x.take j)).length lc) (nd1 (c :: x.take j)).length (row int1 (nd1 (c :: x.take j))) rfl (World.ownsRow.alloc ho.out _) ⟨wr.heap.size, 0, none⟩ 1 1 [.int .i64 (d : Int)] rfl rfl NW.out (by simp [Value.oneCell']) (by decide) (by simp [maxLen]; omega) (by omega) (by simp; omega) (wr.heap.size + 1) (by simp) ?_; intro g4 cap4 w4 o4 g4' hat hlt4; have O4 := hid o4; have G4 := hid g4'; clear o4 g4' hat hlt4)
      have L4 := hid (show Own w4 w1.heap.size (.slice (some ⟨g4, 0, none⟩) ((nd1 (c :: x.take j)).length + 1) cap4) (nd1 (c :: x.take (j + 1))) from by
        have := O4.out
        unfold Own
        rw [TK.out, row_append, List.length_append]
        exact this)
      have KB := hid (((Kept.refl (fun i => w1.heap.size ≤ i) wr).alloc (.cells #[.int .i64 (d : Int)] 3)).grown G4.out (fun i hi => Or.inl (HLT.out i hi).1))
      have A4 := hid (hA.out.kept KB.out (fun i hF hi => by have := HFL.out i hF; omega))
      have K4 := hid ((hK.out.alloc (.cells #[.int .i64 (d : Int)] 3)).grown G4.out (fun i hi => Or.inr (HLT.out i hi).1))
      have N2 := hid (N1.out w4 A4.out)
      clear O4 G4 KB ho hA hK NW N1
      go_wp2_with fail
      refine N2.out.mono ?_
      rintro e w5 ⟨rfl, e5⟩
      have L5 := hid (own_kept L4.out e5.kept (fun i hi hF => by have := (World.ownsRow.lt L4.out i hi).1; have := HFL.out i hF; omega))
      have A5 := hid (show IsA w5 F pa pm (tk s (2 + 2 * (j + 1))) from e5.is)
      have K5 := hid (K4.out.trans' e5.kept)
      clear e5 N2 L4 A4 K4
      go_wp2
      go_roundw
      case rel => exact ⟨j + 1, z, rfl, by omega, HZ, hid (by have h := L5.out; rw [hnl] at h; exact h), A5, K5⟩
      case measure => simp only [lenV]; omega
    · obtain rfl : j = x.length := by omega
      have hdc : d = c := by have := hd.out; simp at this; exact this.symm
      subst hdc
      have HO := hid (show Own wr w1.heap.size (.slice la (nd1 (d :: x.take x.length)).length lc) (nd1 (d :: x)) by have := ho.out; rwa [List.take_length] at this ⊢)
      clear ho hd hnl
      go_wp2
      go_ret
      exact ⟨_, rfl, HO.out, hA.out, hK.out⟩
end
end Go.Proofs.YtckoglddhkbgkabGreat

/- The walks of fib's ring and children. -/
namespace Go.Proofs.YtckoglddhkbgkabGreat
open Go.ChangeShapes Go.WideShapes Go.ChangeAt Go.RowKit
open Tr

/-- the first of a list, None of none -/
def hdL : List Nat → Int
  | [] => -1
  | c :: _ => (c : Int)
section
variable {F : Nat → Prop} {w w' : World} {pa pm : Nat} {s : St}
/-- chain's All of None -/
theorem callT_no (h : IsA w F pa pm s) : Calls Tryz.prog 86 #[.pointer (some ⟨pa, 0, none⟩), .int .i64 (-1)] w fun e w' => e = .returned (.slice none 0 0) ∧ w' = w := by
  have LV := hid (liveT (-1) (Ex.start h))
  rw [show liveS s (-1) = false from live_neg (by decide)] at LV
  clear h
  go_enter Tryz.func86, Tryz.ntmps86
  go_wp2_with fail
  refine LV.out.mono ?_
  rintro e w1 ⟨rfl, rfl⟩
  clear LV
  go_wp2
  go_ret
  exact ⟨rfl, rfl⟩
set_option maxHeartbeats 2000000 in
/-- a ring, all of which have this Up -/
theorem fringT (l : List Nat) (up : Int) (hr : Ring (hasS s) l) (hn : l.Nodup) (hl : ∀ d ∈ l, LS s d = true) (hu : ∀ d ∈ l, cellS s (d : Int) 0 = up) (ok : Ok s) (hlen : l.length ≤ 40000) (h : IsA w F pa pm s) (hs : s.steps ≤ 99800000) :
    Calls Tryz.prog 72 #[.pointer (some ⟨pa, 0, none⟩), .int .i64 (hdL l), .int .i64 up] w fun e w' =>
      ∃ v, e = .returned v ∧ Own w' w.heap.size v (nd1 l) ∧ IsA w' F pa pm (tk s (3 * l.length)) ∧ Kept F w w' := by
  cases l with
  | nil =>
    have A := hid (callT_no h)
    have H := hid h
    rw [show hdL [] = -1 from rfl]
    clear hr hn hl hu ok h
    go_enter Tryz.func72, Tryz.ntmps72
    go_wp2_with fail
    refine A.out.mono ?_
    rintro e w1 ⟨rfl, rfl⟩
    clear A
    go_wp2_with fail
    go_loopw [15] (fun iv wr => iv = .int .i64 0 ∧ wr = w1) (fun _ _ => 0)
    case atStart => exact ⟨rfl, rfl⟩
    case round =>
      obtain ⟨rfl, rfl⟩ := hrel
      go_wp2
      go_ret
      exact ⟨_, rfl, Own.nil _ _, H.out, Kept.refl _ _⟩
  | cons c x =>
    have A := hid (callT c x hr hn hl ok (by simp at hlen; omega) h (by omega))
    have HU := hid hu
    have HFL := hid h.lt
    obtain ⟨l, hl'⟩ : ∃ l, l = c :: x := ⟨_, rfl⟩
    have hl2 : 2 + 2 * x.length = 2 * l.length := by rw [hl']; simp; omega
    rw [hl2, ← hl'] at A
    rw [← hl'] at HU hlen ⊢
    rw [show hdL l = (c : Int) by rw [hl']; rfl]
    clear hr hn hl hu ok h hl2 hl'
    have hnl : (nd1 l).length = l.length := nd1_len l
    have HNL := hid hnl
    clear hnl
    go_enter Tryz.func72, Tryz.ntmps72
    go_wp2_with fail
    refine A.out.mono ?_
    rintro e w1 ⟨v, rfl, o1, a1, k1⟩
    obtain ⟨va, vc, rfl⟩ := own_form o1
    have O1 := hid o1
    have A1 := hid a1
    have K1 := hid k1
    rw [HNL.out] at O1 ⊢
    clear o1 a1 k1 A
    go_wp2_with fail
    go_loopw [15] (fun iv wr => ∃ j : Nat, iv = .int .i64 (j : Int) ∧ j ≤ l.length ∧ Hid (IsA wr F pa pm (tk s (2 * l.length + j))) ∧ Hid (Kept F w1 wr)) (fun iv _ => l.length - (intOf iv).toNat)
    case atStart => exact ⟨0, rfl, Nat.zero_le _, A1, hid (Kept.refl _ _)⟩
    case round =>
      clear A1
      obtain ⟨j, rfl, hj, hA, hK⟩ := hrel
      have OR := hid (own_kept O1.out hK.out (fun i hi hF => by have := (World.ownsRow.lt O1.out i hi).1; have := HFL.out i hF; omega))
      by_cases hlt : j < l.length
      · have hx : l[j]? = some l[j] := List.getElem?_eq_getElem hlt
        generalize l[j] = y at hx
        have hxn := nd1_at hx
        rcases (Own.lst OR.out) with ⟨a', c', e, y1, y2, y3, y4⟩
        rw [HNL.out] at e
        have e1 : va = a' ∧ vc = c' := by injection e; exact ⟨by assumption, by assumption⟩
        obtain ⟨e1, e2⟩ := e1
        subst e1 e2
        rcases y4 with z | ⟨b, off, e2, hb, hc⟩
        · have h1 : (nd1 l).length = 0 := by rw [z]; rfl
          rw [HNL.out] at h1
          omega
        · subst e2
          have c1 : wr.cell? ⟨b, off + j, none⟩ = some (.int .i64 (y : Int)) := hc _ _ hxn
          have hlt' : (j : Int) < (l.length : Int) := by omega
          have C := hid (cellT (y : Int) 0 (Ex.start hA.out) (by show s.steps + _ ≤ _; omega))
          rw [show cellS (tk s (2 * l.length + j)) (y : Int) 0 = up from HU.out y (List.mem_of_getElem? hx)] at C
          clear hx hxn hc e y1 y2 y3 hA
          go_wp2_with fail
          refine C.out.mono ?_
          rintro e w2 ⟨rfl, e2⟩
          have A2 := hid (show IsA w2 F pa pm (tk s (2 * l.length + (j + 1))) from e2.is)
          have K2 := hid (hK.out.trans' e2.kept)
          clear e2 C hK
          go_wp2
          go_roundw
          case rel => exact ⟨j + 1, by go_num, by omega, A2, K2⟩
          case measure => simp [intOf]; omega
      · obtain rfl : j = l.length := by omega
        have HA := hid (show IsA wr F pa pm (tk s (3 * l.length)) by have := hA.out; rwa [show 2 * l.length + l.length = 3 * l.length by omega] at this)
        clear hA
        go_wp2
        go_ret
        exact ⟨_, rfl, by have := OR.out; rw [HNL.out] at this; unfold Own; rw [HNL.out]; exact this, HA.out, K1.out.trans' hK.out⟩
/-- a node's children -/
theorem fchildT (n : Nat) (l : List Nat) (hd : cellS s (n : Int) 1 = hdL l) (hr : Ring (hasS s) l) (hn : l.Nodup) (hl : ∀ d ∈ l, LS s d = true) (hu : ∀ d ∈ l, cellS s (d : Int) 0 = (n : Int)) (ok : Ok s) (hlen : l.length ≤ 40000) (h : IsA w F pa pm s) (hs : s.steps ≤ 99700000) :
    Calls Tryz.prog 69 #[.pointer (some ⟨pa, 0, none⟩), .int .i64 (n : Int)] w fun e w' =>
      ∃ v, e = .returned v ∧ Own w' w.heap.size v (nd1 l) ∧ IsA w' F pa pm (tk s (1 + 3 * l.length)) ∧ Kept F w w' := by
  have C := hid (cellT (n : Int) 1 (Ex.start h) (by omega))
  rw [hd] at C
  have R := hid (fun w1 (a : IsA w1 F pa pm (tk s 1)) => fringT (s := tk s 1) l (n : Int) hr hn hl hu (Sm.tk ok 1).ok hlen a (by show s.steps + 1 ≤ _; omega))
  have HFL := hid h.lt
  clear hd hr hn hl hu ok h
  generalize hdL l = r0 at *
  go_enter Tryz.func69, Tryz.ntmps69
  go_wp2_with fail
  refine C.out.mono ?_
  rintro e w1 ⟨rfl, e1⟩
  have D := hid (R.out w1 e1.is)
  have K1 := hid e1.kept
  clear C R e1
  go_wp2_with fail
  refine D.out.mono ?_
  rintro e w2 ⟨v, rfl, o, a, k⟩
  have O := hid (Own.base o K1.out.size)
  have A := hid (show IsA w2 F pa pm (tk s (1 + 3 * l.length)) by rw [← tk_tk]; exact a)
  have K := hid (K1.out.trans' k)
  obtain ⟨va, vc, rfl⟩ := own_form o
  clear o a k D
  go_wp2
  go_ret
  exact ⟨_, rfl, O.out, A.out, K.out⟩
end
end Go.Proofs.YtckoglddhkbgkabGreat

/- chain's Out and Join, of rings as lists. -/
namespace Go.Proofs.YtckoglddhkbgkabGreat
open Go.ChangeShapes Go.WideShapes Go.ChangeAt Go.RowKit
open Tr

/-- only links of these cells have turned -/
structure Lnk (f g : Nat → Nat → Int) (X : List Nat) : Prop where
  oth : ∀ a j, j ≠ 2 → j ≠ 3 → g a j = f a j
  out : ∀ a, a ∉ X → g a 2 = f a 2 ∧ g a 3 = f a 3
theorem Lnk.refl (f : Nat → Nat → Int) (X : List Nat) : Lnk f f X := ⟨fun _ _ _ _ => rfl, fun _ _ => ⟨rfl, rfl⟩⟩
theorem Lnk.trans {f g k : Nat → Nat → Int} {X : List Nat} (h : Lnk f g X) (q : Lnk g k X) : Lnk f k X :=
  ⟨fun a j h2 h3 => (q.oth a j h2 h3).trans (h.oth a j h2 h3), fun a ha => ⟨(q.out a ha).1.trans (h.out a ha).1, (q.out a ha).2.trans (h.out a ha).2⟩⟩
theorem Lnk.mono {f g : Nat → Nat → Int} {X Y : List Nat} (h : Lnk f g X) (hs : ∀ a ∈ X, a ∈ Y) : Lnk f g Y := ⟨h.oth, fun a ha => h.out a fun q => ha (hs a q)⟩
theorem lnk_ln {f : Nat → Nat → Int} {c d : Nat} {X : List Nat} (hc : c ∈ X) (hd : d ∈ X) : Lnk f (lnF f c d) X :=
  ⟨fun a j h2 h3 => ln_o h2 h3, fun a ha => ⟨by rw [ln_2, if_neg (fun e : a = d => ha (e ▸ hd))], by rw [ln_3, if_neg (fun e : a = c => ha (e ▸ hc))]⟩⟩
/-- a ring apart from what has turned -/
theorem Lnk.ring {f g : Nat → Nat → Int} {X l : List Nat} (h : Lnk f g X) (hr : Ring f l) (hd : ∀ a ∈ l, a ∉ X) : Ring g l := ring_like hr fun c hc => ⟨(h.out c (hd c hc)).2, (h.out c (hd c hc)).1⟩

section
variable {F : Nat → Prop} {w0 w w' : World} {pa pm : Nat} {s : St}
theorem routT (c : Nat) (x : List Nat) (hr : Ring (hasS s) (c :: x)) (hn : (c :: x).Nodup) (hl : ∀ d ∈ c :: x, LS s d = true) (ok : Ok s) (h : Ex F w0 w pa pm s) (hs : s.steps ≤ 99999700) :
    Calls Tryz.prog 65 #[.pointer (some ⟨pa, 0, none⟩), .int .i64 (c : Int)] w fun e w' =>
      e = .returned (.int .i64 (hdL x)) ∧ ∃ s', Ex F w0 w' pa pm s' ∧ Sm s s' ∧ s'.steps = s.steps + 8 ∧ Ring (hasS s') x ∧ Ring (hasS s') [c] ∧ Lnk (hasS s) (hasS s') (c :: x) := by
  obtain ⟨h3, h4, h1, h2⟩ := ring_links hr
  have mp := last_mem c x
  have mr := next_mem c x
  refine (outT c (lastR c x) (nextR c x) ok (hl c (by simp)) (hl _ mp) (hl _ mr) h1 h2 h3 h4 h hs).mono ?_
  rintro e w1 ⟨rfl, e1⟩
  have k1 := Sm.tk ok 4
  have k2 := k1.trans (ln_sm k1.ok (lastR c x : Int) (nextR c x : Int))
  have k3 := k2.trans (ln_sm k2.ok (c : Int) (c : Int))
  have f2 : hasS (lnS (tk s 4) (lastR c x : Int) (nextR c x : Int)) = lnF (hasS s) (lastR c x) (nextR c x) := ln_has (s := tk s 4) (hl _ mp) (hl _ mr)
  have f3 : hasS (lnS (lnS (tk s 4) (lastR c x : Int) (nextR c x : Int)) (c : Int) (c : Int)) = lnF (lnF (hasS s) (lastR c x) (nextR c x)) c c := by
    rw [ln_has (by rw [k2.ls]; exact hl c (by simp)) (by rw [k2.ls]; exact hl c (by simp)), f2]
  obtain ⟨r1, r2⟩ := ring_out hr hn
  refine ⟨?_, _, e1, k3, by rw [ln_steps, ln_steps]; rfl, by rw [f3]; exact r1, by rw [f3]; exact r2, by rw [f3]; exact (lnk_ln mp mr).trans (lnk_ln (by simp) (by simp))⟩
  cases x with
  | nil => show Ending.returned (.int .i64 (if c = c then -1 else (c : Int))) = _; rw [if_pos rfl]; rfl
  | cons a y =>
    have hca : ¬ a = c := fun e => by
      rw [List.nodup_cons] at hn
      exact hn.1 (by simp [e])
    show Ending.returned (.int .i64 (if a = c then -1 else (a : Int))) = _
    rw [if_neg hca]; rfl
theorem rjoinT (c : Nat) (x : List Nat) (d : Nat) (y : List Nat) (hr : Ring (hasS s) (c :: x)) (kr : Ring (hasS s) (d :: y)) (hn : ((c :: x) ++ (d :: y)).Nodup) (hl : ∀ a ∈ (c :: x) ++ (d :: y), LS s a = true) (ok : Ok s) (h : Ex F w0 w pa pm s) (hs : s.steps ≤ 99999700) :
    Calls Tryz.prog 66 #[.pointer (some ⟨pa, 0, none⟩), .int .i64 (c : Int), .int .i64 (d : Int)] w fun e w' =>
      e = .returned (.tuple #[]) ∧ ∃ s', Ex F w0 w' pa pm s' ∧ Sm s s' ∧ s'.steps = s.steps + 8 ∧ Ring (hasS s') (c :: d :: (y ++ x)) ∧ Lnk (hasS s) (hasS s') ((c :: x) ++ (d :: y)) := by
  obtain ⟨h1, h2, _, _⟩ := ring_links hr
  obtain ⟨_, _, h3, h4⟩ := ring_links kr
  have mp : lastR d y ∈ (c :: x) ++ (d :: y) := List.mem_append_right _ (last_mem d y)
  have mr : nextR c x ∈ (c :: x) ++ (d :: y) := List.mem_append_left _ (next_mem c x)
  have mc : c ∈ (c :: x) ++ (d :: y) := by simp
  have md : d ∈ (c :: x) ++ (d :: y) := by simp
  refine (joinT c d (lastR d y) (nextR c x) ok (hl _ mc) (hl _ md) (hl _ mp) (hl _ mr) h1 h2 h3 h4 h hs).mono ?_
  rintro e w1 ⟨rfl, e1⟩
  have k1 := Sm.tk ok 4
  have k2 := k1.trans (ln_sm k1.ok (c : Int) (d : Int))
  have k3 := k2.trans (ln_sm k2.ok (lastR d y : Int) (nextR c x : Int))
  have f2 : hasS (lnS (tk s 4) (c : Int) (d : Int)) = lnF (hasS s) c d := ln_has (s := tk s 4) (hl _ mc) (hl _ md)
  have f3 : hasS (lnS (lnS (tk s 4) (c : Int) (d : Int)) (lastR d y : Int) (nextR c x : Int)) = lnF (lnF (hasS s) c d) (lastR d y) (nextR c x) := by
    rw [ln_has (by rw [k2.ls]; exact hl _ mp) (by rw [k2.ls]; exact hl _ mr), f2]
  exact ⟨rfl, _, e1, k3, by rw [ln_steps, ln_steps]; rfl, by rw [f3]; exact ring_join hr kr hn, by rw [f3]; exact (lnk_ln mc md).trans (lnk_ln mp mr)⟩
/-- a cell whose links are None comes to be a ring of its own -/
theorem oneT (c : Nat) (lc : LS s c = true) (h2 : hasS s c 2 = -1) (h3 : hasS s c 3 = -1) (ok : Ok s) (h : Ex F w0 w pa pm s) (hs : s.steps ≤ 99999700) :
    Calls Tryz.prog 41 #[.pointer (some ⟨pa, 0, none⟩), .int .i64 (c : Int)] w fun e w' =>
      e = .returned (.tuple #[]) ∧ ∃ s', Ex F w0 w' pa pm s' ∧ Sm s s' ∧ s'.steps = s.steps + 6 ∧ Ring (hasS s') [c] ∧ Lnk (hasS s) (hasS s') [c] := by
  have A := hid (aheadT_no (c : Int) (cell_neg (j := 2) lc (by decide) h2) h (by omega))
  have N := hid (fun w1 (e : Ex F w0 w1 pa pm (tk s 1)) => cnextT_no (s := tk s 1) (c : Int) (cell_neg (s := s) (j := 3) lc (by decide) h3) e (by show s.steps + 1 ≤ _; omega))
  have L := hid (fun w1 (e : Ex F w0 w1 pa pm (tk s 2)) => clinkT (s := tk s 2) (-1) (-1) e (by show s.steps + 2 ≤ _; omega))
  have M := hid (fun w1 (e : Ex F w0 w1 pa pm (lnS (tk s 2) (-1) (-1))) => clinkT (c : Int) (c : Int) e (by rw [ln_steps]; show s.steps + 2 + 2 ≤ _; omega))
  have e0 : lnS (tk s 2) (-1) (-1) = tk s 4 := by unfold lnS; rw [set_none, set_none]; rfl
  have V := hid (show Calls Tryz.prog 80 #[.pointer (some ⟨pa, 0, none⟩), .int .i64 (c : Int)] w fun e w' => e = .returned (.int .i64 (-1)) ∧ Ex F w0 w' pa pm (tk s 4) by
    rw [e0] at L
    clear h lc h2 h3 ok e0 M
    go_enter Tryz.func80, Tryz.ntmps80
    go_wp2_with fail
    refine A.out.mono ?_
    rintro e w1 ⟨rfl, e1⟩
    have B := hid (N.out w1 e1)
    clear A N e1
    go_wp2_with fail
    refine B.out.mono ?_
    rintro e w2 ⟨rfl, e2⟩
    have D := hid (L.out w2 e2)
    clear B L e2
    go_wp2_with fail
    refine D.out.mono ?_
    rintro e w3 ⟨rfl, e3⟩
    have E := hid e3
    clear D e3
    go_wp2
    go_ret
    exact ⟨rfl, E.out⟩)
  rw [e0] at M
  have k1 := Sm.tk ok 4
  have k2 := hid (k1.trans (ln_sm k1.ok (c : Int) (c : Int)))
  have f2 := hid (show hasS (lnS (tk s 4) (c : Int) (c : Int)) = lnF (hasS s) c c from ln_has (s := tk s 4) lc lc)
  have hne : ((-1 : Int) == (c : Int)) = false := by simp
  have O := hid (show Calls Tryz.prog 65 #[.pointer (some ⟨pa, 0, none⟩), .int .i64 (c : Int)] w fun e w' => e = .returned (.int .i64 (-1)) ∧ Ex F w0 w' pa pm (lnS (tk s 4) (c : Int) (c : Int)) by
    clear h lc h2 h3 ok e0 A N L k1 k2 f2
    go_enter Tryz.func65, Tryz.ntmps65
    go_wp2_with fail
    refine V.out.mono ?_
    rintro e w1 ⟨rfl, e1⟩
    have B := hid (M.out w1 e1)
    clear V M e1
    go_wp2_with fail
    refine B.out.mono ?_
    rintro e w2 ⟨rfl, e2⟩
    have E := hid e2
    clear B e2
    go_wp2
    go_ret
    exact ⟨rfl, E.out⟩)
  clear h lc h2 h3 ok e0 A N L M V hne k1
  go_enter Tryz.func41, Tryz.ntmps41
  go_wp2_with fail
  refine O.out.mono ?_
  rintro e w1 ⟨rfl, e1⟩
  have E := hid e1
  clear O e1
  go_wp2
  go_end0
  exact ⟨rfl, _, E.out, k2.out, by rw [ln_steps]; rfl, by rw [f2.out]; exact ⟨by rw [ln_3, if_pos rfl], by rw [ln_2, if_pos rfl]⟩, by rw [f2.out]; exact lnk_ln (by simp) (by simp)⟩
end
end Go.Proofs.YtckoglddhkbgkabGreat
