/- Slices of a law's own beside a ring; slices that came in; a row appended to a row. -/
import Derived.Test.YtokjachnbipjjaaWth
import Derived.Test.YtokjachnbipjjaaHdT
import Derived.Test.YtokjachnbipjjaaSmT
import Derived.Deep.Onto
namespace Go.Proofs.Ytokjachnbipjjaa
open Go.ChangeShapes Go.WideShapes Go.ChangeAt Go.RowKit

/-- a slice that the call made, outside of F -/
structure Mine (w0 w : World) (F : Nat → Prop) (e : TypeId) (sz : Nat) (v : Value) (n : Nat) (xs : List Value) : Prop where
  own : w.ownsRow 0 e sz v n xs
  out : ∀ k, v.ownBlock = some k → ¬ F k ∧ w0.heap.size ≤ k

section
variable {w0 w w' : World} {F G : Nat → Prop} {e e2 : TypeId} {sz sz2 : Nat} {v v2 : Value} {n n2 : Nat} {xs xs2 : List Value}
theorem Mine.nil (w0 w : World) (F : Nat → Prop) (e : TypeId) (sz : Nat) : Mine w0 w F e sz (.slice none 0 0) 0 [] := ⟨World.ownsRow_nil w 0 e sz, fun k hk => by cases hk⟩
theorem Mine.call (h : Mine w0 w F e sz v n xs) (k : Kept F w w') : Mine w0 w' (Grow F w w') e sz v n xs :=
  ⟨own_kept h.own k fun i hi => (h.out i hi).1, fun i hi => ⟨fun q => q.elim (h.out i hi).1 fun q => by have := (h.own.lt i hi).2; omega, (h.out i hi).2⟩⟩
theorem Mine.plain (h : Mine w0 w F e sz v n xs) (k : Kept (fun _ => False) w w') : Mine w0 w' F e sz v n xs := ⟨own_plain h.own k, h.out⟩
theorem Mine.other (h : Mine w0 w F e sz v n xs) (k : Kept G w w') (hd : ∀ i, v.ownBlock = some i → ¬ G i) : Mine w0 w' F e sz v n xs := ⟨own_kept h.own k hd, h.out⟩
theorem kept_of_grown {row : Option Nat} (h : w.grownBy w' row) : Kept (fun k => row = some k) w w' := ⟨h.os, h.tape, h.output, h.size, fun k hk hn => h.block k hk fun e => hn e.symm⟩
theorem Mine.grown (h : Mine w0 w F e sz v n xs) (h2 : w.ownsRow 0 e2 sz2 v2 n2 xs2) (hg : w.grownBy w' v2.ownBlock) (he : e ≠ e2) : Mine w0 w' F e sz v n xs :=
  h.other (kept_of_grown hg) fun i hi q => by
    rcases own_ne h.own h2 he with z | z
    · rw [z] at hi; cases hi
    · exact z (hi.trans q.symm)
/-- something is appended -/
theorem Mine.pushed {g cap m : Nat} {news : List Value} (h : Mine w0 w F e sz v n xs) (_hg : w.grownBy w' v.ownBlock) (ho : w'.ownsRow 0 e sz (.slice (some ⟨g, 0, none⟩) (n + m) cap) (n + m) (xs ++ news)) (hat : v.ownBlock = some g ∨ g = w.heap.size) (hF : ∀ k, F k → k < w.heap.size) (hB : w0.heap.size ≤ w.heap.size) :
    Mine w0 w' F e sz (.slice (some ⟨g, 0, none⟩) (n + m) cap) (n + m) (xs ++ news) := by
  refine ⟨ho, fun k hk => ?_⟩
  cases hk
  rcases hat with q | q
  · exact h.out g q
  · subst q; exact ⟨fun q => Nat.lt_irrefl _ (hF _ q), hB⟩
theorem Mine.lt (h : Mine w0 w F e sz v n xs) : ∀ k, v.ownBlock = some k → k < w.heap.size := fun k hk => (h.own.lt k hk).2
end

section
variable {w0 w w' : World} {F : Nat → Prop} {pa room : Nat} {e : TypeId} {sz n : Nat} {v : Value} {xs : List Value}
theorem HoldT.grown {l : List ByteArray} (h : HoldT w0 w F pa room l) (m : Mine w0 w F e sz v n xs) (hg : w.grownBy w' v.ownBlock) : HoldT w0 w' F pa room l :=
  h.other (kept_of_grown hg) (fun k hk => (m.out k hk).2) fun k hk q => (m.out k q).1 hk
theorem HoldI.grown {l : List Int} (h : HoldI w0 w F pa room l) (m : Mine w0 w F e sz v n xs) (hg : w.grownBy w' v.ownBlock) : HoldI w0 w' F pa room l :=
  h.other (kept_of_grown hg) (fun k hk => (m.out k hk).2) fun k hk q => (m.out k q).1 hk
end

/-- the cells of a slice that came in -/
def Came {α : Type} (w : World) (a : Option Addr) (c : Nat) (f : α → List Value) (l : List α) : Prop :=
  l = [] ∨ ∃ b off, a = some ⟨b, off, none⟩ ∧ b < w.heap.size ∧ ∀ i x, l[i]? = some x → ∀ j, j < c → w.cell? ⟨b, off + (i * c + j), none⟩ = (f x)[j]?
theorem Came.get {α : Type} {w w' : World} {a : Option Addr} {c : Nat} {f : α → List Value} {l : List α} (h : Came w a c f l) (k : Below w.heap.size w w') {i : Nat} {x : α} (hx : l[i]? = some x) :
    ∃ b off, a = some ⟨b, off, none⟩ ∧ b < w.heap.size ∧ ∀ j, j < c → w'.cell? ⟨b, off + (i * c + j), none⟩ = (f x)[j]? := by
  rcases h with rfl | ⟨b, off, e, hb, hc⟩
  · simp at hx
  · exact ⟨b, off, e, hb, fun j hj => (k.cell (p := ⟨b, _, none⟩) hb).trans (hc i x hx j hj)⟩

/-- a row appended to a row -/
theorem append_row (w : World) (base : Nat) (t ty e : TypeId) (i : TypeInfo) (z : Value) (size bytes : Nat) (ht : Try.prog.underlying t = some (.slice e)) (hi : Try.prog.info? e = some i) (hz : i.zero = some z) (hsize : i.size = size) (hby : i.bytes = bytes) (hzs : z.cells.size = size) (hsz : 0 < size)
    (v x : Value) (n m : Nat) (xs news : List Value) (hown : w.ownsRow base e size v n xs) (hx : w.ownsRow 0 e size x m news) (h1 : ∀ u ∈ news, u.oneCell' = true) (h63 : n + m ≤ maxLen) (hbytes : (n + m) * bytes ≤ 140737488355328) (hbase : base ≤ w.heap.size) :
    ∃ v' w', (Builtin.append_ #[t, t] ty #[v, x]).run Try.prog w = .ok v' w' ∧ w'.ownsRow base e size v' (n + m) (xs ++ news) ∧ w.grownBy w' v.ownBlock := by
  rcases hx.2 with ⟨rfl, rfl⟩ | ⟨g, cap, cur, rfl, _, hg, _, _, _, htake⟩
  · have hn : news = [] := List.eq_nil_of_length_eq_zero (by simpa using hx.1)
    subst hn
    exact ⟨v, w, run_append_owned_none (P := Try.prog) w base t ty e i size ht hi v n xs hown, by simpa using hown, ⟨rfl, rfl, rfl, Nat.le_refl _, fun _ _ _ => rfl⟩⟩
  · obtain ⟨v', w', hr, q1, q2, _⟩ := run_append_own (P := Try.prog) w base t ty e i z size bytes ht hi hz hsize hby hzs hsz v n xs hown ⟨g, 0, none⟩ m cap news hx.1 (hx.cells rfl) h1 h63 hbytes hbase
    exact ⟨v', w', hr, q1, q2⟩

theorem step_append_row {ops : Array Oper} {o : Oper} {a : Act} {w : World} {K : Act → World → Prop} {Q : Exit → Act → World → Prop} {E : Prop} (hgd : o.guard = none) (s y : Operand) (t : TypeId)
    (ho : o.op = .call { callee := .builtin .append, args := #[s, y], argTypes := #[t, t] })
    (base : Nat) (e : TypeId) (i : TypeInfo) (z : Value) (size bytes : Nat) (ht : Try.prog.underlying t = some (.slice e)) (hi : Try.prog.info? e = some i) (hz : i.zero = some z)
    (hsize : i.size = size) (hby : i.bytes = bytes) (hzs : z.cells.size = size) (hsz : 0 < size)
    (v x : Value) (n m : Nat) (xs news : List Value) (hs : a.eval s = v) (hy : a.eval y = x) (hown : w.ownsRow base e size v n xs) (hx : w.ownsRow 0 e size x m news) (h1 : ∀ u ∈ news, u.oneCell' = true)
    (h63 : n + m ≤ maxLen) (hbytes : (n + m) * bytes ≤ 140737488355328) (hbase : base ≤ w.heap.size)
    (h : ∀ v' w', w'.ownsRow base e size v' (n + m) (xs ++ news) → w.grownBy w' v.ownBlock → K (a.put o.dst v') w') :
    if Region.wanted o (yielded ops a.tmps) = true then Oper.wp Try.prog o a w K Q else E := by
  have hw : Region.wanted o (yielded ops a.tmps) = true := by simp [Region.wanted, hgd]
  rw [if_pos hw]
  obtain ⟨v', w', hr, h2, h3⟩ := append_row w base t o.type e i z size bytes ht hi hz hsize hby hzs hsz v x n m xs news hown hx h1 h63 hbytes hbase
  unfold Oper.wp execOp
  simp only [ho, resolve, invoke, builtin, Sem.run_bind, Sem.run_pure, Result.andThen_ok, List.map_toArray, List.map_cons, List.map_nil, hs, hy, hr]
  exact h v' w' h2 h3

theorem wpList_append_row {ops : Array Oper} {rest : List Oper} {o : Oper} {a : Act} {w : World} {Q : Exit → Act → World → Prop} (hgd : o.guard = none) (s y : Operand) (t : TypeId)
    (ho : o.op = .call { callee := .builtin .append, args := #[s, y], argTypes := #[t, t] })
    (base : Nat) (e : TypeId) (i : TypeInfo) (z : Value) (size bytes : Nat) (ht : Try.prog.underlying t = some (.slice e)) (hi : Try.prog.info? e = some i) (hz : i.zero = some z)
    (hsize : i.size = size) (hby : i.bytes = bytes) (hzs : z.cells.size = size) (hsz : 0 < size)
    (v x : Value) (n m : Nat) (xs news : List Value) (hs : a.eval s = v) (hy : a.eval y = x) (hown : w.ownsRow base e size v n xs) (hx : w.ownsRow 0 e size x m news) (h1 : ∀ u ∈ news, u.oneCell' = true)
    (h63 : n + m ≤ maxLen) (hbytes : (n + m) * bytes ≤ 140737488355328) (hbase : base ≤ w.heap.size)
    (h : ∀ v' w', w'.ownsRow base e size v' (n + m) (xs ++ news) → w.grownBy w' v.ownBlock → wpList Try.prog ops Q rest (a.put o.dst v') w') : wpList Try.prog ops Q (o :: rest) a w := by
  refine wpList_plain hgd fun _ hK => ?_
  obtain ⟨v', w', hr, h2, h3⟩ := append_row w base t o.type e i z size bytes ht hi hz hsize hby hzs hsz v x n m xs news hown hx h1 h63 hbytes hbase
  unfold Oper.wp execOp
  simp only [ho, resolve, invoke, builtin, Sem.run_bind, Sem.run_pure, Result.andThen_ok, List.map_toArray, List.map_cons, List.map_nil, hs, hy, hr]
  exact hK _ _ (h v' w' h2 h3)

theorem k1 (W : World) (o : Obj) : Kept (fun _ => False) W (W.alloc o).drew := ((Kept.refl _ _).alloc _).drew
theorem k2 (W : World) (o o' : Obj) : Kept (fun _ => False) W ((W.alloc o).alloc o').drew := (((Kept.refl _ _).alloc _).alloc _).drew
theorem new_at1 (W : World) (o o' : Obj) : ((W.alloc o).alloc o').drew.heap[W.heap.size + 1]? = some o' := by
  have := heap_alloc_new (W.alloc o) o'
  have e : (W.alloc o).heap.size = W.heap.size + 1 := by simp
  rw [e] at this
  exact this
theorem new_at0 (W : World) (o o' : Obj) : ((W.alloc o).alloc o').drew.heap[W.heap.size]? = some o := (Below.heap_alloc (W.alloc o) o' W.heap.size (by simp)).trans (heap_alloc_new W o)

end Go.Proofs.Ytokjachnbipjjaa
