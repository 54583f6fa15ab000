/- Several texts in one. -/
import Derived.Test.YthfdooigljkfiaaRows
import Derived.WalkKit
import Derived.ProofKit
import Derived.OpenShut
import Derived.Below
import Derived.OneCell
import Derived.WalkSmall
import Derived.Deep.AppendLies
import Derived.Deep.RegionHeld3
import Derived.Deep.QuietTactic
import Derived.BigQuiet
import Derived.BigRegion
import Derived.Deep.RegionLaw
import Derived.Lib.AppendZerosOnto
import Derived.Deep.DeepCutAuto
/- What of memory a call leaves as it was; rows of places and of numbers in memory. -/
namespace Go.Proofs.Ythfdooigljkfiaa
open Go.ChangeShapes Go.WideShapes Go.ChangeAt Go.RowKit

theorem hid {p : Prop} (h : p) : Hid p := h

/-- but for blocks of F, and new ones, all is as it was -/
structure Kept (F : Nat → Prop) (w w' : World) : Prop where
  os : w'.os = w.os
  tape : w'.tape = w.tape
  output : w'.output = w.output
  size : w.heap.size ≤ w'.heap.size
  block : ∀ k, k < w.heap.size → ¬ F k → w'.heap[k]? = w.heap[k]?

theorem below_drewN {B : Nat} {a b : World} (h : Below B a b) (n : Nat) : Below B a (b.drewN n) := ⟨h.os, h.tape, h.output, h.size, h.block⟩
theorem below_box {w : World} (o : Obj) (n : Nat) : Below w.heap.size w ((w.alloc o).drewN n) := below_drewN ((Below.refl _ _).alloc (Nat.le_refl _) _) n

/-- F, and what was made between the two worlds -/
def Grow (F : Nat → Prop) (w w' : World) : Nat → Prop := fun k => F k ∨ (w.heap.size ≤ k ∧ k < w'.heap.size)

theorem Kept.refl (F : Nat → Prop) (w : World) : Kept F w w := ⟨rfl, rfl, rfl, Nat.le_refl _, fun _ _ _ => rfl⟩
theorem Kept.trans {F : Nat → Prop} {a b c : World} (h : Kept F a b) (k : Kept (Grow F a b) b c) : Kept F a c :=
  ⟨k.os.trans h.os, k.tape.trans h.tape, k.output.trans h.output, Nat.le_trans h.size k.size, fun i hi hn =>
    (k.block i (Nat.lt_of_lt_of_le hi h.size) (fun e => by rcases e with e | e; exact hn e; omega)).trans (h.block i hi hn)⟩
theorem Kept.trans' {F : Nat → Prop} {a b c : World} (h : Kept F a b) (k : Kept F b c) : Kept F a c :=
  ⟨k.os.trans h.os, k.tape.trans h.tape, k.output.trans h.output, Nat.le_trans h.size k.size, fun i hi hn => (k.block i (Nat.lt_of_lt_of_le hi h.size) hn).trans (h.block i hi hn)⟩
theorem Kept.mono {F G : Nat → Prop} {a b : World} (h : Kept F a b) (hg : ∀ k, F k → G k) : Kept G a b := ⟨h.os, h.tape, h.output, h.size, fun k hk hn => h.block k hk fun e => hn (hg k e)⟩
theorem Kept.alloc {F : Nat → Prop} {a b : World} (h : Kept F a b) (o : Obj) : Kept F a (b.alloc o) :=
  h.trans' ⟨rfl, rfl, rfl, by simp, fun k hk _ => Below.heap_alloc _ _ _ hk⟩
theorem Kept.drew {F : Nat → Prop} {a b : World} (h : Kept F a b) : Kept F a b.drew := ⟨h.os, h.tape, h.output, h.size, h.block⟩
theorem Kept.drewN {F : Nat → Prop} {a b : World} (h : Kept F a b) (n : Nat) : Kept F a (b.drewN n) := ⟨h.os, h.tape, h.output, h.size, h.block⟩
theorem Kept.setCell {F : Nat → Prop} {a b : World} (h : Kept F a b) {p : Addr} (hp : F p.block ∨ a.heap.size ≤ p.block) (u : Value) : Kept F a (b.setCell p u) :=
  ⟨h.os, h.tape, h.output, by simpa [World.setCell] using h.size, fun k hk hn => (Below.heap_setCell _ _ _ _ (fun e => by subst e; rcases hp with hp | hp; exact hn hp; omega)).trans (h.block k hk hn)⟩
theorem Kept.grown {F : Nat → Prop} {a b c : World} {row : Option Nat} (h : Kept F a b) (hg : b.grownBy c row) (hr : ∀ k, row = some k → F k ∨ a.heap.size ≤ k) : Kept F a c :=
  ⟨hg.os.trans h.os, hg.tape.trans h.tape, hg.output.trans h.output, Nat.le_trans h.size hg.size, fun k hk hn =>
    (hg.block k (Nat.lt_of_lt_of_le hk h.size) (fun e => by rcases hr k e.symm with q | q; exact hn q; omega)).trans (h.block k hk hn)⟩
theorem Kept.below {F : Nat → Prop} {a b : World} (h : Kept F a b) {B : Nat} (hB : B ≤ a.heap.size) (hF : ∀ k, F k → B ≤ k) : Below B a b :=
  ⟨h.os, h.tape, h.output, h.size, fun k hk => h.block k (by omega) fun e => by have := hF k e; omega⟩
theorem Kept.of_below {F : Nat → Prop} {a b : World} (h : Below a.heap.size a b) : Kept F a b := ⟨h.os, h.tape, h.output, h.size, fun k hk _ => h.block k hk⟩
theorem Kept.cell {F : Nat → Prop} {a b : World} (h : Kept F a b) {p : Addr} (hp : p.block < a.heap.size) (hn : ¬ F p.block) : b.cell? p = a.cell? p := World.cell?_of_block (w := a) (h.block p.block hp hn)

theorem Grow.lt {F : Nat → Prop} {w w' : World} (hF : ∀ k, F k → k < w.heap.size) (hs : w.heap.size ≤ w'.heap.size) : ∀ k, Grow F w w' k → k < w'.heap.size := fun k h => by
  rcases h with h | h
  · have := hF k h; omega
  · exact h.2

/-- what lies in a list of things, c cells each -/
def row {α : Type} (f : α → List Value) : List α → List Value
  | [] => []
  | x :: r => f x ++ row f r
theorem row_length {α : Type} {f : α → List Value} {c : Nat} (hf : ∀ x, (f x).length = c) : ∀ l : List α, (row f l).length = l.length * c
  | [] => by simp [row]
  | x :: r => by simp only [row, List.length_append, hf, row_length hf r, List.length_cons]; rw [Nat.add_mul]; omega
theorem row_append {α : Type} {f : α → List Value} : ∀ l m : List α, row f (l ++ m) = row f l ++ row f m
  | [], _ => rfl
  | x :: r, m => by simp only [List.cons_append, row, row_append r m, List.append_assoc]
theorem row_get {α : Type} {f : α → List Value} {c : Nat} (hf : ∀ x, (f x).length = c) : ∀ (l : List α) (i j : Nat) (x : α), l[i]? = some x → j < c → (row f l)[i * c + j]? = (f x)[j]?
  | [], i, j, x, h, _ => by simp at h
  | y :: r, 0, j, x, h, hj => by
    simp at h; subst h
    simp only [row, Nat.zero_mul, Nat.zero_add]
    rw [List.getElem?_append_left (by rw [hf]; exact hj)]
  | y :: r, i + 1, j, x, h, hj => by
    simp at h
    have := row_get hf r i j x h hj
    simp only [row]
    have e : (i + 1) * c + j = c + (i * c + j) := by rw [Nat.add_mul]; omega
    rw [e, List.getElem?_append_right (by rw [hf]; omega), hf, Nat.add_sub_cancel_left]
    exact this
theorem row_set {α : Type} {f : α → List Value} {c : Nat} (hf : ∀ x, (f x).length = c) : ∀ (l : List α) (i j : Nat) (x x' : α) (u : Value), l[i]? = some x → j < c → (f x).set j u = f x' → (row f l).set (i * c + j) u = row f (l.set i x')
  | [], i, j, x, _, _, h, _, _ => by simp at h
  | y :: r, 0, j, x, x', u, h, hj, hu => by
    simp at h; subst h
    simp only [row, Nat.zero_mul, Nat.zero_add, List.set_cons_zero]
    rw [List.set_append_left _ _ (by rw [hf]; exact hj), hu]
  | y :: r, i + 1, j, x, x', u, h, hj, hu => by
    simp at h
    have := row_set hf r i j x x' u h hj hu
    simp only [row, List.set_cons_succ]
    have e : (i + 1) * c + j = c + (i * c + j) := by rw [Nat.add_mul]; omega
    rw [e, List.set_append_right _ _ (by rw [hf]; omega), hf, Nat.add_sub_cancel_left, this]
theorem row_one {α : Type} {f : α → List Value} (hf : ∀ x, ∀ v ∈ f x, v.oneCell' = true) : ∀ l : List α, ∀ v ∈ row f l, v.oneCell' = true
  | [], v, h => by simp [row] at h
  | x :: r, v, h => by
    simp only [row, List.mem_append] at h
    rcases h with h | h
    · exact hf x v h
    · exact row_one hf r v h

/-- a number's cell -/
def nat1 (n : Nat) : List Value := [.int .i64 n]
theorem nat1_len : ∀ n, (nat1 n).length = 1 := fun _ => rfl
theorem nat1_one : ∀ n, ∀ v ∈ nat1 n, v.oneCell' = true := fun n v h => by simp [nat1] at h; subst h; rfl

/-- rows of unlike elements lie in unlike blocks -/
theorem own_ne {w : World} {b1 b2 : Nat} {e1 e2 : TypeId} {s1 s2 : Nat} {v1 v2 : Value} {n1 n2 : Nat} {x1 x2 : List Value} (h1 : w.ownsRow b1 e1 s1 v1 n1 x1) (h2 : w.ownsRow b2 e2 s2 v2 n2 x2) (he : e1 ≠ e2) : v1.ownBlock = none ∨ v1.ownBlock ≠ v2.ownBlock := by
  rcases h1.2 with ⟨rfl, _⟩ | ⟨g, cap, cur, rfl, _, hg, _⟩
  · exact Or.inl rfl
  · right
    rcases h2.2 with ⟨rfl, _⟩ | ⟨g', cap', cur', rfl, _, hg', _⟩
    · simp [Value.ownBlock]
    · simp only [Value.ownBlock]
      intro e
      injection e with e
      subst e
      rw [hg] at hg'
      injection hg' with hg'
      injection hg' with _ h _
      exact he h
theorem own_ne_block {w : World} {b1 : Nat} {e1 e2 : TypeId} {s1 : Nat} {v1 : Value} {n1 : Nat} {x1 : List Value} {g : Nat} {cur : Array Value} {fr : Nat × Nat} (h1 : w.ownsRow b1 e1 s1 v1 n1 x1) (h2 : w.heap[g]? = some (.cells cur e2 fr)) (he : e1 ≠ e2) : v1.ownBlock ≠ some g := by
  rcases h1.2 with ⟨rfl, _⟩ | ⟨g', cap, cur', rfl, _, hg, _⟩
  · simp [Value.ownBlock]
  · simp only [Value.ownBlock]
    intro e
    injection e with e
    subst e
    rw [hg] at h2
    injection h2 with h2
    injection h2 with _ h _
    exact he h

/-- a row is where it was, if its block is -/
theorem own_same {w w' : World} {b : Nat} {e : TypeId} {s : Nat} {v : Value} {n : Nat} {xs : List Value} (h : w.ownsRow b e s v n xs) (hk : ∀ k, v.ownBlock = some k → w'.heap[k]? = w.heap[k]?) : w'.ownsRow b e s v n xs := by
  refine ⟨h.1, ?_⟩
  rcases h.2 with h' | ⟨g, cap, cur, rfl, hb, hg, r⟩
  · exact Or.inl h'
  · exact Or.inr ⟨g, cap, cur, rfl, hb, by rw [hk g rfl]; exact hg, r⟩

theorem own_kept {F : Nat → Prop} {w w' : World} {b : Nat} {e : TypeId} {s : Nat} {v : Value} {n : Nat} {xs : List Value} (h : w.ownsRow b e s v n xs) (k : Kept F w w') (hd : ∀ k, v.ownBlock = some k → ¬ F k) : w'.ownsRow b e s v n xs :=
  own_same h fun i hi => k.block i (h.lt i hi).2 (hd i hi)
theorem own_plain {w w' : World} {b : Nat} {e : TypeId} {s : Nat} {v : Value} {n : Nat} {xs : List Value} (h : w.ownsRow b e s v n xs) (k : Kept (fun _ => False) w w') : w'.ownsRow b e s v n xs := own_kept h k fun _ _ e => e

/-- how the value of a row looks -/
theorem own_form {w : World} {b : Nat} {e : TypeId} {s : Nat} {v : Value} {n : Nat} {xs : List Value} (h : w.ownsRow b e s v n xs) : ∃ a c, v = .slice a n c := by
  rcases h.2 with ⟨rfl, rfl⟩ | ⟨g, cap, cur, rfl, _⟩
  · exact ⟨_, _, rfl⟩
  · exact ⟨_, _, rfl⟩

/-- a block of cells, one of them turned -/
theorem blk_set {w : World} {b j : Nat} {cur : Array Value} {t : TypeId} {fr : Nat × Nat} {u : Value} (h : w.heap[b]? = some (.cells cur t fr)) : (w.setCell ⟨b, j, none⟩ u).heap[b]? = some (.cells (cur.setIfInBounds j u) t fr) := by
  have hlt := lt_of_block h
  have h' : w.heap[b] = .cells cur t fr := by simpa [Array.getElem?_eq_getElem hlt] using h
  show (w.heap.modify b _)[b]? = _
  rw [Array.getElem?_eq_getElem (by simpa using hlt), Array.getElem_modify_self, h']
  rfl
theorem blk_other {w : World} {b : Nat} {p : Addr} {u : Value} {o : Obj} (h : w.heap[b]? = some o) (hb : b ≠ p.block) : (w.setCell p u).heap[b]? = some o := (Below.heap_setCell _ _ _ _ hb).trans h
theorem blk_cell {w : World} {b j : Nat} {cur : Array Value} {t : TypeId} {fr : Nat × Nat} {v : Value} (h : w.heap[b]? = some (.cells cur t fr)) (hv : cur[j]? = some v) : w.cell? ⟨b, j, none⟩ = some v := by simp [World.cell?, h, hv]
theorem blk_free {w : World} {b j : Nat} {cur : Array Value} {t : TypeId} (h : w.heap[b]? = some (.cells cur t (0, 0))) : w.frozen? ⟨b, j, none⟩ = false := by simp [World.frozen?, h]
end Go.Proofs.Ythfdooigljkfiaa

/- The arena as plain data: what its cells have, whether they are taken, those that were given back, its steps. -/
namespace Go.Proofs.Ythfdooigljkfiaa
open Go.ChangeShapes Go.WideShapes Go.ChangeAt Go.RowKit

theorem info_parts {P : Program} {t : TypeId} {z : Value} {n b : Nat} (h : (P.info? t).map (fun i => (i.zero, i.size, i.bytes)) = some (some z, n, b)) : ∃ i, P.info? t = some i ∧ i.zero = some z ∧ i.size = n ∧ i.bytes = b := by
  cases hq : P.info? t with
  | none => simp [hq] at h
  | some i => simp [hq] at h; exact ⟨i, rfl, h.1, h.2.1, h.2.2⟩
theorem ret_ib {a b : Int} {c d : Bool} (h : a = b) (h' : c = d) : Ending.returned (.tuple #[.int .i64 a, .bool c]) = .returned (.tuple #[.int .i64 b, .bool d]) := by rw [h, h']
theorem ret_int {k : IntKind} {a b : Int} (h : a = b) : Ending.returned (.int k a) = .returned (.int k b) := by rw [h]
theorem ret_bool {a b : Bool} (h : a = b) : Ending.returned (.bool a) = .returned (.bool b) := by rw [h]
theorem row_snoc {α : Type} {f : α → List Value} (l : List α) (x : α) : row f (l ++ [x]) = row f l ++ f x := by rw [row_append]; simp [row]
theorem snoc_or {α : Type} (l : List α) : l = [] ∨ ∃ m x, l = m ++ [x] := by
  rcases List.eq_nil_or_concat l with h | ⟨m, x, h⟩
  · exact Or.inl h
  · exact Or.inr ⟨m, x, by simpa using h⟩
theorem row_like {α : Type} {f : α → List Value} : ∀ (l : List α) (i : Nat) (x x' : α), l[i]? = some x → f x' = f x → row f (l.set i x') = row f l
  | [], _, _, _, h, _ => by simp at h
  | y :: r, 0, x, x', h, he => by
    simp at h; subst h
    simp only [List.set_cons_zero, row, he]
  | y :: r, i + 1, x, x', h, he => by
    simp at h
    simp only [List.set_cons_succ, row, row_like r i x x' h he]

/-- one element of a row of elements of one cell -/
theorem own1_at {α : Type} {f : α → List Value} {w : World} {b : Nat} {e : TypeId} {v : Value} {l : List α} (h : w.ownsRow b e 1 v l.length (row f l)) (hf : ∀ x, (f x).length = 1) {i : Nat} {x : α} (hx : l[i]? = some x) :
    ∃ g cap, v = .slice (some ⟨g, 0, none⟩) l.length cap ∧ g < w.heap.size ∧ (∀ j, w.frozen? ⟨g, j, none⟩ = false) ∧ w.cell? ⟨g, i, none⟩ = (f x)[0]? := by
  have hi : i < l.length := (List.getElem?_eq_some_iff.1 hx).1
  obtain ⟨g, cap, rfl, _, hg⟩ := h.form (by omega)
  refine ⟨g, cap, rfl, hg, fun j => h.frozenAt j, ?_⟩
  rw [h.cellAt i (by omega), show i = i * 1 + 0 by omega, row_get hf l i 0 x hx (by decide)]

/- a cell: what it has, whether it is taken -/
structure St where
  most : Nat
  pl : List ((Nat → Int) × Bool)
  back : List Nat
  steps : Nat

/-- how many cells there are -/
def most0 (n : Int) : Nat := (min (max n 0) 65536).toNat
theorem most0_le (n : Int) : most0 n ≤ 65536 := by unfold most0; omega
def st0 (n : Int) : St := ⟨most0 n, [], [], 0⟩

/-- what a cell has that was just taken -/
def fr (j : Nat) : Int := if j = 4 ∨ j = 5 ∨ j = 7 ∨ j = 8 then 0 else -1
def upd (x : Nat → Int) (j : Nat) (v : Int) : Nat → Int := fun k => if k = j then v else x k

def tick (s : St) : St := ⟨s.most, s.pl, s.back, s.steps + 1⟩
def liveS (s : St) (c : Int) : Bool := decide (0 ≤ c) && (match s.pl[c.toNat]? with | some x => x.2 | none => false)
def mayS (s : St) (c f : Int) : Bool := liveS s c && (decide (0 ≤ f) && decide (f ≤ 9))
def hasS (s : St) (c : Nat) : Nat → Int := match s.pl[c]? with | some x => x.1 | none => fr
def getS (s : St) (c f : Int) : Int := if mayS s c f = true then hasS s c.toNat f.toNat else -1
def cellS (s : St) (c f : Int) : Int := if 0 ≤ getS s c f ∧ getS s c f < s.most then getS s c f else -1
def setS (s : St) (c f v : Int) : St := if mayS s c f = true then ⟨s.most, s.pl.set c.toNat (upd (hasS s c.toNat) f.toNat v, true), s.back, s.steps + 1⟩ else tick s
def giveS (s : St) (c : Int) : St := if liveS s c = true then ⟨s.most, s.pl.set c.toNat (hasS s c.toNat, false), s.back ++ [c.toNat], s.steps + 1⟩ else tick s
/-- which cell is taken now -/
def nextS (s : St) : Int := match s.back.getLast? with
  | some a => a
  | none => if s.pl.length = s.most then -1 else s.pl.length
def takeS (s : St) : St := match s.back.getLast? with
  | some a => ⟨s.most, s.pl.set a (fr, true), s.back.dropLast, s.steps + 1⟩
  | none => if s.pl.length = s.most then tick s else ⟨s.most, s.pl ++ [(fr, true)], s.back, s.steps + 1⟩
/-- how many are taken -/
def cnt : List ((Nat → Int) × Bool) → Nat
  | [] => 0
  | x :: r => x.2.toNat + cnt r

theorem cnt_append : ∀ l m : List ((Nat → Int) × Bool), cnt (l ++ m) = cnt l + cnt m
  | [], m => by simp [cnt]
  | x :: r, m => by simp only [List.cons_append, cnt, cnt_append r m]; omega
theorem cnt_set : ∀ (l : List ((Nat → Int) × Bool)) (i : Nat) (x y : ((Nat → Int) × Bool)), l[i]? = some x → cnt (l.set i y) + x.2.toNat = cnt l + y.2.toNat
  | [], i, x, y, h => by simp at h
  | z :: r, 0, x, y, h => by simp at h; subst h; simp only [List.set_cons_zero, cnt]; omega
  | z :: r, i + 1, x, y, h => by
    simp at h
    have := cnt_set r i x y h
    simp only [List.set_cons_succ, cnt]; omega

/-- what is true of every arena -/
structure Ok (s : St) : Prop where
  top : s.most ≤ 65536
  fits : s.pl.length ≤ s.most
  free : ∀ c ∈ s.back, ∃ x, s.pl[c]? = some (x, false)
  once : s.back.Nodup
  count : cnt s.pl + s.back.length = s.pl.length

section
variable {s : St} {c f v : Int}
theorem Ok.tick (h : Ok s) : Ok (tick s) := ⟨h.top, h.fits, h.free, h.once, h.count⟩
theorem Ok.start (n : Int) : Ok (st0 n) := ⟨most0_le n, Nat.zero_le _, fun c h => (by cases h), List.nodup_nil, rfl⟩
theorem Ok.back_le (h : Ok s) : s.back.length ≤ s.pl.length := by have := h.count; omega
theorem live_iff : liveS s c = true ↔ 0 ≤ c ∧ ∃ x, s.pl[c.toNat]? = some (x, true) := by
  unfold liveS
  cases hx : s.pl[c.toNat]? with
  | none => simp
  | some y => obtain ⟨y, b⟩ := y; simp
theorem has_of {n : Nat} {x : ((Nat → Int) × Bool)} (h : s.pl[n]? = some x) : hasS s n = x.1 := by unfold hasS; rw [h]
theorem live_neg (h : c < 0) : liveS s c = false := by unfold liveS; simp; omega
theorem live_far (h : (s.pl.length : Int) ≤ c) : liveS s c = false := by unfold liveS; rw [List.getElem?_eq_none (by omega)]; simp
theorem live_at {x : ((Nat → Int) × Bool)} (h : 0 ≤ c) (hx : s.pl[c.toNat]? = some x) : liveS s c = x.2 := by unfold liveS; rw [hx]; simp [h]
theorem may_not (h : liveS s c = false) : mayS s c f = false := by unfold mayS; rw [h]; rfl
theorem may_yes (h : mayS s c f = true) : liveS s c = true ∧ 0 ≤ f ∧ f ≤ 9 := by unfold mayS at h; simpa using h
theorem live_tick : liveS (tick s) c = liveS s c := rfl
theorem get_tick : getS (tick s) c f = getS s c f := rfl
theorem Ok.set (h : Ok s) : Ok (setS s c f v) := by
  unfold setS
  split
  · rename_i hm
    obtain ⟨h0, x, hx⟩ := live_iff.1 (may_yes hm).1
    refine ⟨h.top, by simpa using h.fits, fun a ha => ?_, h.once, ?_⟩
    · obtain ⟨y, hy⟩ := h.free a ha
      refine ⟨y, ?_⟩
      have hne : c.toNat ≠ a := fun e => by rw [e, hy] at hx; simp at hx
      rw [List.getElem?_set_ne hne]; exact hy
    · have := cnt_set s.pl c.toNat _ (upd (hasS s c.toNat) f.toNat v, true) hx
      have hc := h.count
      simp only [List.length_set]
      simp at this ⊢; omega
  · exact h.tick
theorem Ok.give (h : Ok s) : Ok (giveS s c) := by
  unfold giveS
  split
  · rename_i hm
    obtain ⟨h0, x, hx⟩ := live_iff.1 hm
    have hlt : c.toNat < s.pl.length := (List.getElem?_eq_some_iff.1 hx).1
    have hnot : c.toNat ∉ s.back := fun hin => by
      obtain ⟨y, hy⟩ := h.free _ hin
      rw [hy] at hx; simp at hx
    refine ⟨h.top, by simpa using h.fits, fun a ha => ?_, ?_, ?_⟩
    · simp only [List.mem_append, List.mem_singleton] at ha
      rcases ha with ha | rfl
      · obtain ⟨y, hy⟩ := h.free a ha
        refine ⟨y, ?_⟩
        have hne : c.toNat ≠ a := fun e => hnot (e ▸ ha)
        rw [List.getElem?_set_ne hne]; exact hy
      · exact ⟨_, by rw [List.getElem?_set_self hlt]⟩
    · rw [List.nodup_append]
      exact ⟨h.once, by simp, fun a ha b hb => by simp at hb; subst hb; exact fun e => hnot (e ▸ ha)⟩
    · have := cnt_set s.pl c.toNat _ (hasS s c.toNat, false) hx
      have hc := h.count
      simp at this ⊢; omega
  · exact h.tick
theorem Ok.take (h : Ok s) : Ok (takeS s) := by
  unfold takeS
  split
  · rename_i a ha
    obtain ⟨bk, hbk⟩ : ∃ bk, s.back = bk ++ [a] := ⟨s.back.dropLast, by
      have := List.dropLast_concat_getLast (l := s.back) (by intro e; rw [e] at ha; simp at ha)
      rw [List.getLast?_eq_some_getLast (by intro e; rw [e] at ha; simp at ha)] at ha
      injection ha with ha
      rw [ha] at this; exact this.symm⟩
    have hfr := h.free
    have hon := h.once
    have hct := h.count
    rw [hbk] at hfr hon hct ⊢
    obtain ⟨y, hy⟩ := hfr a (by simp)
    rw [List.nodup_append] at hon
    simp only [List.dropLast_concat]
    refine ⟨h.top, by simpa using h.fits, fun b hb => ?_, hon.1, ?_⟩
    · obtain ⟨z, hz⟩ := hfr b (by simp [hb])
      have hne : a ≠ b := fun e => hon.2.2 b hb a (by simp) e.symm
      exact ⟨z, by rw [List.getElem?_set_ne hne]; exact hz⟩
    · have := cnt_set s.pl a _ (fr, true) hy
      simp at this hct ⊢; omega
  · rename_i hn
    have hb : s.back = [] := by simpa using hn
    split
    · exact h.tick
    · rename_i hl
      refine ⟨h.top, by have := h.fits; simp; omega, fun b hb' => (by rw [hb] at hb'; cases hb'), h.once, ?_⟩
      have hct := h.count
      simp only [cnt_append, List.length_append]
      simp [cnt] at hct ⊢; omega
end
end Go.Proofs.Ythfdooigljkfiaa

/- The arena: how it lies in memory; the walks of Live, Len, Cells, Meter, Steps, step, at, may, read. -/
namespace Go.Proofs.Ythfdooigljkfiaa
open Go.ChangeShapes Go.WideShapes Go.ChangeAt Go.RowKit

/-- the ten numbers of a cell -/
def ten (x : ((Nat → Int) × Bool)) : List Value := [.int .i64 (x.1 0), .int .i64 (x.1 1), .int .i64 (x.1 2), .int .i64 (x.1 3), .int .i64 (x.1 4), .int .i64 (x.1 5), .int .i64 (x.1 6), .int .i64 (x.1 7), .int .i64 (x.1 8), .int .i64 (x.1 9)]
theorem ten_len : ∀ x, (ten x).length = 10 := fun _ => rfl
theorem ten_one : ∀ x, ∀ v ∈ ten x, v.oneCell' = true := fun x v h => by
  simp [ten] at h
  rcases h with rfl | rfl | rfl | rfl | rfl | rfl | rfl | rfl | rfl | rfl <;> rfl
theorem ten_get (x : ((Nat → Int) × Bool)) (j : Nat) (h : j < 10) : (ten x)[j]? = some (.int .i64 (x.1 j)) := by
  match j, h with
  | 0, _ => rfl
  | 1, _ => rfl
  | 2, _ => rfl
  | 3, _ => rfl
  | 4, _ => rfl
  | 5, _ => rfl
  | 6, _ => rfl
  | 7, _ => rfl
  | 8, _ => rfl
  | 9, _ => rfl
theorem ten_set (x : ((Nat → Int) × Bool)) (b : Bool) (j : Nat) (v : Int) (h : j < 10) : (ten x).set j (.int .i64 v) = ten (upd x.1 j v, b) := by
  match j, h with
  | 0, _ => rfl
  | 1, _ => rfl
  | 2, _ => rfl
  | 3, _ => rfl
  | 4, _ => rfl
  | 5, _ => rfl
  | 6, _ => rfl
  | 7, _ => rfl
  | 8, _ => rfl
  | 9, _ => rfl
/-- its mark -/
def mk8 (x : ((Nat → Int) × Bool)) : List Value := [.int .i8 (if x.2 = true then 1 else 0)]
theorem mk8_len : ∀ x, (mk8 x).length = 1 := fun _ => rfl
theorem mk8_one : ∀ x, ∀ v ∈ mk8 x, v.oneCell' = true := fun x v h => by simp [mk8] at h; subst h; rfl

/-- an arena in memory -/
structure RawA (w : World) (pa pm : Nat) (hv tv bv : Value) (s : St) : Prop where
  blk : w.heap[pa]? = some (.cells #[.int .i64 s.most, .pointer (some ⟨pm, 0, none⟩), hv, tv, bv] 67 (0, 0))
  met : w.heap[pm]? = some (.cells #[.int .i64 s.steps, .int .i64 0, .int .i64 0] 73 (0, 0))
  has : w.ownsRow 0 2 1 hv (s.pl.length * 10) (row ten s.pl)
  tak : w.ownsRow 0 76 1 tv s.pl.length (row mk8 s.pl)
  back : w.ownsRow 0 3 1 bv s.back.length (row nat1 s.back)

/-- an arena whose memory lies in F -/
def IsA (w : World) (F : Nat → Prop) (pa pm : Nat) (s : St) : Prop :=
  ∃ hv tv bv, RawA w pa pm hv tv bv s ∧ F pa ∧ F pm ∧ (∀ k, hv.ownBlock = some k → F k) ∧ (∀ k, tv.ownBlock = some k → F k) ∧ (∀ k, bv.ownBlock = some k → F k) ∧ (∀ k, F k → k < w.heap.size) ∧ Ok s

section
variable {w w' : World} {F G : Nat → Prop} {pa pm : Nat} {hv tv bv : Value} {s s' : St}
theorem RawA.cells (h : RawA w pa pm hv tv bv s) : pa < w.heap.size ∧ w.cell? ⟨pa, 0, none⟩ = some (.int .i64 s.most) ∧ w.cell? ⟨pa, 1, none⟩ = some (.pointer (some ⟨pm, 0, none⟩)) ∧ w.cell? ⟨pa, 2, none⟩ = some hv ∧ w.cell? ⟨pa, 3, none⟩ = some tv ∧ w.cell? ⟨pa, 4, none⟩ = some bv :=
  ⟨lt_of_block h.blk, blk_cell h.blk rfl, blk_cell h.blk rfl, blk_cell h.blk rfl, blk_cell h.blk rfl, blk_cell h.blk rfl⟩
theorem RawA.mcell (h : RawA w pa pm hv tv bv s) : pm < w.heap.size ∧ w.cell? ⟨pm, 0, none⟩ = some (.int .i64 s.steps) ∧ w.frozen? ⟨pm, 0, none⟩ = false := ⟨lt_of_block h.met, blk_cell h.met rfl, blk_free h.met⟩
theorem RawA.ne (h : RawA w pa pm hv tv bv s) : pa ≠ pm := fun e => by
  have h1 := h.blk
  rw [e, h.met] at h1
  injection h1 with h1
  injection h1 with _ h1 _
  exact absurd h1 (by decide)
theorem RawA.same (h : RawA w pa pm hv tv bv s) (h0 : w'.heap[pa]? = w.heap[pa]?) (h0' : w'.heap[pm]? = w.heap[pm]?) (h1 : ∀ k, hv.ownBlock = some k → w'.heap[k]? = w.heap[k]?) (h2 : ∀ k, tv.ownBlock = some k → w'.heap[k]? = w.heap[k]?) (h3 : ∀ k, bv.ownBlock = some k → w'.heap[k]? = w.heap[k]?) : RawA w' pa pm hv tv bv s :=
  ⟨h0.trans h.blk, h0'.trans h.met, own_same h.has h1, own_same h.tak h2, own_same h.back h3⟩
theorem RawA.plain (h : RawA w pa pm hv tv bv s) (k : Kept (fun _ => False) w w') : RawA w' pa pm hv tv bv s :=
  h.same (k.block pa (lt_of_block h.blk) fun e => e) (k.block pm (lt_of_block h.met) fun e => e) (fun i hi => k.block i (h.has.lt i hi).2 fun e => e) (fun i hi => k.block i (h.tak.lt i hi).2 fun e => e) (fun i hi => k.block i (h.back.lt i hi).2 fun e => e)
/-- its steps turned -/
theorem RawA.ticked (h : RawA w pa pm hv tv bv s) (n : Nat) : RawA (w.setCell ⟨pm, 0, none⟩ (.int .i64 n)) pa pm hv tv bv ⟨s.most, s.pl, s.back, n⟩ := by
  refine ⟨blk_other h.blk h.ne, ?_, ownsRow_setCell_other h.has (own_ne_block h.has h.met (by decide)) _, ownsRow_setCell_other h.tak (own_ne_block h.tak h.met (by decide)) _, ownsRow_setCell_other h.back (own_ne_block h.back h.met (by decide)) _⟩
  have := blk_set (j := 0) (u := .int .i64 n) h.met
  simpa using this
/-- a mark's cell -/
theorem RawA.mark (h : RawA w pa pm hv tv bv s) {i : Nat} {x : ((Nat → Int) × Bool)} (hx : s.pl[i]? = some x) :
    ∃ g cap, tv = .slice (some ⟨g, 0, none⟩) s.pl.length cap ∧ g < w.heap.size ∧ (∀ j, w.frozen? ⟨g, j, none⟩ = false) ∧ w.cell? ⟨g, i, none⟩ = some (.int .i8 (if x.2 = true then 1 else 0)) := own1_at h.tak mk8_len hx
/-- a number's cell -/
theorem RawA.num (h : RawA w pa pm hv tv bv s) {i j : Nat} {x : ((Nat → Int) × Bool)} (hx : s.pl[i]? = some x) (hj : j < 10) :
    ∃ g cap, hv = .slice (some ⟨g, 0, none⟩) (s.pl.length * 10) cap ∧ g < w.heap.size ∧ (∀ j, w.frozen? ⟨g, j, none⟩ = false) ∧ w.cell? ⟨g, i * 10 + j, none⟩ = some (.int .i64 (x.1 j)) := by
  have hi : i < s.pl.length := (List.getElem?_eq_some_iff.1 hx).1
  obtain ⟨g, cap, rfl, _, hg⟩ := h.has.form (by omega)
  refine ⟨g, cap, rfl, hg, fun j => h.has.frozenAt j, ?_⟩
  rw [h.has.cellAt (i * 10 + j) (by omega), row_get ten_len s.pl i j x hx hj, ten_get x j hj]
theorem ne_of_own {b1 b2 : Nat} {e1 e2 : TypeId} {s1 s2 : Nat} {v1 v2 : Value} {n1 n2 : Nat} {x1 x2 : List Value} (h1 : w.ownsRow b1 e1 s1 v1 n1 x1) (h2 : w.ownsRow b2 e2 s2 v2 n2 x2) (he : e1 ≠ e2) {g : Nat} (hg : v2.ownBlock = some g) : v1.ownBlock ≠ some g := by
  rcases own_ne h1 h2 he with q | q
  · rw [q]; simp
  · rw [← hg]; exact q
/-- a mark turned -/
theorem RawA.marked {g cap n : Nat} (h : RawA w pa pm hv (.slice (some ⟨g, 0, none⟩) n cap) bv s) {i : Nat} {x : ((Nat → Int) × Bool)} (hx : s.pl[i]? = some x) (b : Bool) {m : Int} (hm : m = if b = true then 1 else 0) :
    RawA (w.setCell ⟨g, i, none⟩ (.int .i8 m)) pa pm hv (.slice (some ⟨g, 0, none⟩) n cap) bv ⟨s.most, s.pl.set i (x.1, b), s.back, s.steps⟩ := by
  subst hm
  have hn : n = s.pl.length := by
    rcases h.tak.2 with ⟨e, _⟩ | ⟨g', cap', cur, e, _⟩
    · cases e
    · cases e; rfl
  subst hn
  have hne : (Value.slice (some ⟨g, 0, none⟩) s.pl.length cap).ownBlock ≠ some pa := own_ne_block h.tak h.blk (by decide)
  have hnm : (Value.slice (some ⟨g, 0, none⟩) s.pl.length cap).ownBlock ≠ some pm := own_ne_block h.tak h.met (by decide)
  have hs := (h.tak.stored i (.int .i8 (if b = true then 1 else 0))).1
  have hrow := row_set mk8_len s.pl i 0 x (x.1, b) (.int .i8 (if b = true then 1 else 0)) hx (by decide) rfl
  simp only [Nat.mul_one, Nat.add_zero] at hrow
  rw [hrow] at hs
  have ht : row ten (s.pl.set i (x.1, b)) = row ten s.pl := row_like _ _ _ _ hx rfl
  exact ⟨blk_other h.blk (fun e => hne (by rw [e]; rfl)), blk_other h.met (fun e => hnm (by rw [e]; rfl)), by simpa [ht] using ownsRow_setCell_other (a := ⟨g, i, none⟩) h.has (ne_of_own h.has h.tak (by decide) rfl) _, by simpa using hs, ownsRow_setCell_other (a := ⟨g, i, none⟩) h.back (ne_of_own h.back h.tak (by decide) rfl) _⟩
/-- a number turned -/
theorem RawA.stored {g cap n : Nat} (h : RawA w pa pm (.slice (some ⟨g, 0, none⟩) n cap) tv bv s) {i j o : Nat} {x : ((Nat → Int) × Bool)} (hx : s.pl[i]? = some x) (hj : j < 10) (ho : o = i * 10 + j) (v : Int) :
    RawA (w.setCell ⟨g, o, none⟩ (.int .i64 v)) pa pm (.slice (some ⟨g, 0, none⟩) n cap) tv bv ⟨s.most, s.pl.set i (upd x.1 j v, x.2), s.back, s.steps⟩ := by
  subst ho
  have hn : n = s.pl.length * 10 := by
    rcases h.has.2 with ⟨e, _⟩ | ⟨g', cap', cur, e, _⟩
    · cases e
    · cases e; rfl
  subst hn
  have hne : (Value.slice (some ⟨g, 0, none⟩) (s.pl.length * 10) cap).ownBlock ≠ some pa := own_ne_block h.has h.blk (by decide)
  have hnm : (Value.slice (some ⟨g, 0, none⟩) (s.pl.length * 10) cap).ownBlock ≠ some pm := own_ne_block h.has h.met (by decide)
  have hs := (h.has.stored (i * 10 + j) (.int .i64 v)).1
  rw [row_set ten_len s.pl i j x (upd x.1 j v, x.2) (.int .i64 v) hx hj (ten_set x x.2 j v hj)] at hs
  have ht : row mk8 (s.pl.set i (upd x.1 j v, x.2)) = row mk8 s.pl := row_like _ _ _ _ hx rfl
  exact ⟨blk_other h.blk (fun e => hne (by rw [e]; rfl)), blk_other h.met (fun e => hnm (by rw [e]; rfl)), by simpa using hs, by simpa [ht] using ownsRow_setCell_other (a := ⟨g, i * 10 + j, none⟩) h.tak (ne_of_own h.tak h.has (by decide) rfl) _, ownsRow_setCell_other (a := ⟨g, i * 10 + j, none⟩) h.back (ne_of_own h.back h.has (by decide) rfl) _⟩

theorem IsA.kept (h : IsA w F pa pm s) (k : Kept G w w') (hd : ∀ k, F k → ¬ G k) : IsA w' F pa pm s := by
  obtain ⟨hv, tv, bv, hr, h1, h2, h3, h4, h5, h6, ok⟩ := h
  have hb : ∀ i, F i → w'.heap[i]? = w.heap[i]? := fun i hi => k.block i (h6 i hi) (hd i hi)
  exact ⟨hv, tv, bv, hr.same (hb pa h1) (hb pm h2) (fun i hi => hb i (h3 i hi)) (fun i hi => hb i (h4 i hi)) (fun i hi => hb i (h5 i hi)), h1, h2, h3, h4, h5, fun i hi => Nat.lt_of_lt_of_le (h6 i hi) k.size, ok⟩
theorem IsA.lt (h : IsA w F pa pm s) : ∀ k, F k → k < w.heap.size := by
  obtain ⟨_, _, _, _, _, _, _, _, _, h6, _⟩ := h; exact h6
theorem IsA.ok (h : IsA w F pa pm s) : Ok s := by
  obtain ⟨_, _, _, _, _, _, _, _, _, _, ok⟩ := h; exact ok
theorem IsA.widen (h : IsA w F pa pm s) (hg : ∀ k, F k → G k) (hl : ∀ k, G k → k < w.heap.size) : IsA w G pa pm s := by
  obtain ⟨hv, tv, bv, hr, h1, h2, h3, h4, h5, h6, ok⟩ := h
  exact ⟨hv, tv, bv, hr, hg _ h1, hg _ h2, fun k hk => hg _ (h3 k hk), fun k hk => hg _ (h4 k hk), fun k hk => hg _ (h5 k hk), hl, ok⟩
theorem IsA.grow (h : IsA w F pa pm s) (k : Kept G w w') (hd : ∀ k, F k → ¬ G k) : IsA w' (Grow F w w') pa pm s :=
  (h.kept k hd).widen (fun _ e => Or.inl e) (Grow.lt h.lt k.size)
theorem IsA.drewN (h : IsA w F pa pm s) (n : Nat) : IsA (w.drewN n) F pa pm s := h.kept ((Kept.refl (fun _ => False) _).drewN _) fun _ _ e => e
end

set_option maxHeartbeats 1000000 in
theorem liveA (pa pm : Nat) (s : St) (F : Nat → Prop) (c : Int) (w : World) (h : IsA w F pa pm s) :
    Calls Try.prog 46 #[.pointer (some ⟨pa, 0, none⟩), .int .i64 c] w fun e w' => e = .returned (.bool (liveS s c)) ∧ w' = w := by
  obtain ⟨hv, tv, bv, hr, f1, f2, f3, f4, f5, f6, ok⟩ := h
  obtain ⟨hpa, h0, h1, h2, h3, h4⟩ := hr.cells
  have hlen : s.pl.length ≤ 65536 := Nat.le_trans ok.fits ok.top
  clear h0 h1 h2 h4 f1 f2 f3 f4 f5 f6 ok
  by_cases c1 : c < 0
  · have H := hid (live_neg (s := s) c1)
    have c1' : decide (0 ≤ c) = false := by simp; omega
    clear h3 hr
    go_enter Try.func46, Try.ntmps46
    go_wp2
    go_ret
    exact ⟨ret_bool H.out.symm, rfl⟩
  · have c1' : 0 ≤ c := by omega
    by_cases c2 : (s.pl.length : Int) ≤ c
    · have H := hid (live_far c2)
      obtain ⟨ta, tc, rfl⟩ := own_form hr.tak
      have c2' : decide (c < (s.pl.length : Int)) = false := by simp; omega
      clear hr c1
      generalize s.pl.length = n at *
      go_enter Try.func46, Try.ntmps46
      go_wp2
      go_ret
      exact ⟨ret_bool H.out.symm, rfl⟩
    · have hn1 : c.toNat < s.pl.length := by omega
      have hx : s.pl[c.toNat]? = some s.pl[c.toNat] := List.getElem?_eq_getElem hn1
      obtain ⟨g, cap, rfl, hg, _, hc⟩ := hr.mark hx
      have H := hid (live_at c1' hx)
      generalize s.pl[c.toNat] = x at hc H
      obtain ⟨xx, b⟩ := x
      have c2' : c < (s.pl.length : Int) := by omega
      have hgp : g ≠ pa := fun e => own_ne_block hr.tak hr.blk (by decide) (by rw [e]; rfl)
      clear hr hx c1 c2 hn1
      generalize s.pl.length = n at *
      cases b
      all_goals
        simp at hc
        go_enter Try.func46, Try.ntmps46
        go_wp2
        go_ret
        exact ⟨ret_bool H.out.symm, rfl⟩

theorem cellsA (pa pm : Nat) (s : St) (F : Nat → Prop) (w : World) (h : IsA w F pa pm s) :
    Calls Try.prog 19 #[.pointer (some ⟨pa, 0, none⟩)] w fun e w' => e = .returned (.int .i64 s.most) ∧ w' = w := by
  obtain ⟨hv, tv, bv, hr, f1, f2, f3, f4, f5, f6, ok⟩ := h
  obtain ⟨hpa, h0, h1, h2, h3, h4⟩ := hr.cells
  clear hr h1 h2 h3 h4 f1 f2 f3 f4 f5 f6 ok
  go_enter Try.func19, Try.ntmps19
  go_wp2
  go_ret
  exact ⟨rfl, rfl⟩
theorem meterA (pa pm : Nat) (s : St) (F : Nat → Prop) (w : World) (h : IsA w F pa pm s) :
    Calls Try.prog 17 #[.pointer (some ⟨pa, 0, none⟩)] w fun e w' => e = .returned (.pointer (some ⟨pm, 0, none⟩)) ∧ w' = w := by
  obtain ⟨hv, tv, bv, hr, f1, f2, f3, f4, f5, f6, ok⟩ := h
  obtain ⟨hpa, h0, h1, h2, h3, h4⟩ := hr.cells
  clear hr h0 h2 h3 h4 f1 f2 f3 f4 f5 f6 ok
  go_enter Try.func17, Try.ntmps17
  go_wp2
  go_ret
  exact ⟨rfl, rfl⟩
theorem stepsA (pa pm : Nat) (s : St) (F : Nat → Prop) (w : World) (h : IsA w F pa pm s) :
    Calls Try.prog 20 #[.pointer (some ⟨pm, 0, none⟩)] w fun e w' => e = .returned (.int .i64 s.steps) ∧ w' = w := by
  obtain ⟨hv, tv, bv, hr, f1, f2, f3, f4, f5, f6, ok⟩ := h
  obtain ⟨hpm, h0, _⟩ := hr.mcell
  clear hr f1 f2 f3 f4 f5 f6 ok
  go_enter Try.func20, Try.ntmps20
  go_wp2
  go_ret
  exact ⟨rfl, rfl⟩
set_option maxHeartbeats 1000000 in
theorem lenA (pa pm : Nat) (s : St) (F : Nat → Prop) (w : World) (h : IsA w F pa pm s) :
    Calls Try.prog 12 #[.pointer (some ⟨pa, 0, none⟩)] w fun e w' => e = .returned (.int .i64 (cnt s.pl)) ∧ ∃ n, w' = w.drewN n := by
  obtain ⟨hv, tv, bv, hr, f1, f2, f3, f4, f5, f6, ok⟩ := h
  obtain ⟨hpa, h0, h1, h2, h3, h4⟩ := hr.cells
  obtain ⟨ta, tc, rfl⟩ := own_form hr.tak
  obtain ⟨ba, bc, rfl⟩ := own_form hr.back
  have hlen : s.pl.length ≤ 65536 := Nat.le_trans ok.fits ok.top
  have H := hid ok.count
  have hb := ok.back_le
  clear hr h0 h1 h2 f1 f2 f3 f4 f5 f6 ok
  generalize s.pl.length = n at *
  generalize s.back.length = m at *
  go_enter Try.func12, Try.ntmps12
  go_wp2_with fail
  go_quiet (fail)
  go_wp2
  go_ret
  exact ⟨ret_int (by have := H.out; omega), _, rfl⟩

theorem addM (a : Nat) (ha : a ≤ 1000000000) (w : World) : Calls Try.prog 74 #[.int .i64 a, .int .i64 1] w fun e w' => e = .returned (.int .i64 ((a + 1 : Nat) : Int)) ∧ w' = w := by
  go_enter Try.func74, Try.ntmps74
  go_wp2
  go_ret
  exact ⟨ret_int (by omega), rfl⟩

set_option maxHeartbeats 1000000 in
theorem tickM (pm n : Nat) (hn : n ≤ 1000000000) (w : World) (hp : pm < w.heap.size) (h0 : w.cell? ⟨pm, 0, none⟩ = some (.int .i64 n)) (hf : w.frozen? ⟨pm, 0, none⟩ = false) :
    Calls Try.prog 63 #[.pointer (some ⟨pm, 0, none⟩), .int .i64 1] w fun e w' => e = .returned (.tuple #[]) ∧ ∃ d, w' = (w.drewN d).setCell ⟨pm, 0, none⟩ (.int .i64 ((n + 1 : Nat) : Int)) := by
  go_enter Try.func63, Try.ntmps63
  go_wp2_with fail
  refine (addM n hn w).mono ?_
  rintro e w1 ⟨rfl, rfl⟩
  obtain ⟨m, hm⟩ : ∃ m : Nat, n + 1 = m := ⟨_, rfl⟩
  rw [hm]
  have HM := hid hm
  clear hm
  go_wp2
  go_end0
  exact ⟨rfl, 0, by rw [HM.out]; rfl⟩

set_option maxHeartbeats 1000000 in
theorem stepA (pa pm : Nat) (s : St) (F : Nat → Prop) (w : World) (h : IsA w F pa pm s) (hs : s.steps ≤ 100000000) :
    Calls Try.prog 45 #[.pointer (some ⟨pa, 0, none⟩)] w fun e w' => e = .returned (.tuple #[]) ∧ IsA w' F pa pm (tick s) ∧ Kept F w w' := by
  have IS := hid h
  obtain ⟨hv, tv, bv, hr, f1, f2, f3, f4, f5, f6, ok⟩ := h
  obtain ⟨hpa, h0, h1, h2, h3, h4⟩ := hr.cells
  obtain ⟨hpm, m0, m1⟩ := hr.mcell
  have T := hid (tickM pm s.steps (by omega) w hpm m0 m1)
  have HR := hid hr
  clear hr h0 h2 h3 h4 f3 f4 f5 f6 ok m0 m1
  go_enter Try.func45, Try.ntmps45
  go_wp2_with fail
  refine T.out.mono ?_
  rintro e w1 ⟨rfl, d, rfl⟩
  clear T
  go_wp2
  go_end0
  obtain ⟨hv', tv', bv', hr', g1, g2, g3, g4, g5, g6, ok'⟩ := IS.out
  exact ⟨rfl, ⟨hv', tv', bv', (hr'.plain ((Kept.refl _ _).drewN d)).ticked (s.steps + 1), g1, g2, g3, g4, g5, fun k hk => by simpa [World.setCell] using g6 k hk, ok'.tick⟩, ((Kept.refl F w).drewN d).setCell (p := ⟨pm, 0, none⟩) (Or.inl g2) _⟩

set_option maxHeartbeats 1000000 in
theorem atA (c f : Int) (hc0 : 0 ≤ c) (hc : c ≤ 65536) (hf0 : 0 ≤ f) (hf : f ≤ 9) (w : World) :
    Calls Try.prog 58 #[.int .i64 c, .int .i64 f] w fun e w' => e = .returned (.int .i64 (c * 10 + f)) ∧ ∃ n, w' = w.drewN n := by
  go_enter Try.func58, Try.ntmps58
  go_wp2
  go_ret
  exact ⟨rfl, 0, rfl⟩

set_option maxHeartbeats 1000000 in
theorem mayA (pa pm : Nat) (s : St) (F : Nat → Prop) (c f : Int) (w : World) (h : IsA w F pa pm s) :
    Calls Try.prog 57 #[.pointer (some ⟨pa, 0, none⟩), .int .i64 c, .int .i64 f] w fun e w' => e = .returned (.bool (mayS s c f)) ∧ w' = w := by
  have L := hid (liveA pa pm s F c w h)
  clear h
  cases hl : liveS s c with
  | false =>
    rw [hl] at L
    have H := hid (may_not (f := f) hl)
    clear hl
    go_enter Try.func57, Try.ntmps57
    go_wp2_with fail
    refine L.out.mono ?_
    rintro e w1 ⟨rfl, rfl⟩
    go_wp2
    go_ret
    exact ⟨ret_bool H.out.symm, rfl⟩
  | true =>
    rw [hl] at L
    have H := hid (show mayS s c f = (decide (0 ≤ f) && decide (f ≤ 9)) by unfold mayS; rw [hl]; rfl)
    clear hl
    by_cases c1 : 0 ≤ f
    · by_cases c2 : f ≤ 9
      · go_enter Try.func57, Try.ntmps57
        go_wp2_with fail
        refine L.out.mono ?_
        rintro e w1 ⟨rfl, rfl⟩
        go_wp2
        go_ret
        exact ⟨ret_bool (by rw [H.out]; simp; omega), rfl⟩
      · go_enter Try.func57, Try.ntmps57
        go_wp2_with fail
        refine L.out.mono ?_
        rintro e w1 ⟨rfl, rfl⟩
        go_wp2
        go_ret
        exact ⟨ret_bool (by rw [H.out]; simp; omega), rfl⟩
    · go_enter Try.func57, Try.ntmps57
      go_wp2_with fail
      refine L.out.mono ?_
      rintro e w1 ⟨rfl, rfl⟩
      go_wp2
      go_ret
      exact ⟨ret_bool (by rw [H.out]; simp; omega), rfl⟩

theorem get_no {s : St} {c f : Int} (h : mayS s c f = false) : getS s c f = -1 := by unfold getS; rw [h]; rfl
theorem get_yes {s : St} {c f : Int} (h : mayS s c f = true) : getS s c f = hasS s c.toNat f.toNat := by unfold getS; rw [if_pos h]

set_option maxHeartbeats 1000000 in
theorem readA (pa pm : Nat) (s : St) (F : Nat → Prop) (c f : Int) (w : World) (h : IsA w F pa pm s) :
    Calls Try.prog 49 #[.pointer (some ⟨pa, 0, none⟩), .int .i64 c, .int .i64 f] w fun e w' => e = .returned (.int .i64 (getS s c f)) ∧ ∃ n, w' = w.drewN n := by
  have M := hid (mayA pa pm s F c f w h)
  cases hm : mayS s c f with
  | false =>
    have H := hid (get_no hm)
    rw [hm] at M
    clear hm h
    go_enter Try.func49, Try.ntmps49
    go_wp2_with fail
    refine M.out.mono ?_
    rintro e w1 ⟨rfl, rfl⟩
    go_wp2
    go_ret
    exact ⟨ret_int H.out.symm, 0, rfl⟩
  | true =>
    have H := hid (get_yes hm)
    rw [hm] at M
    obtain ⟨hl, hf0, hf9⟩ := may_yes hm
    obtain ⟨hc0, x, hx⟩ := live_iff.1 hl
    have hlt : c.toNat < s.pl.length := (List.getElem?_eq_some_iff.1 hx).1
    obtain ⟨hv, tv, bv, hr, f1, f2, f3, f4, f5, f6, ok⟩ := h
    obtain ⟨hpa, h0, h1, h2, h3, h4⟩ := hr.cells
    obtain ⟨g, cap, rfl, hg, _, hcell⟩ := hr.num (j := f.toNat) hx (by omega)
    have hlen : s.pl.length ≤ 65536 := Nat.le_trans ok.fits ok.top
    have HX := hid (has_of hx)
    have A := hid (fun w => atA c f hc0 (by omega) hf0 hf9 w)
    obtain ⟨o, ho⟩ : ∃ o : Int, c * 10 + f = o := ⟨_, rfl⟩
    have ho0 : 0 ≤ o := by omega
    have ho1 : o < ((s.pl.length * 10 : Nat) : Int) := by omega
    rw [show c.toNat * 10 + f.toNat = o.toNat by omega] at hcell
    rw [ho] at A
    generalize hn : s.pl.length * 10 = n at *
    have hn' : n ≤ 655360 := by omega
    clear hr h0 h1 h3 h4 f1 f2 f3 f4 f5 f6 ok hx hl hm ho hlt hlen hn hc0 hf0 hf9
    go_enter Try.func49, Try.ntmps49
    go_wp2_with fail
    refine M.out.mono ?_
    rintro e w1 ⟨rfl, rfl⟩
    go_wp2_with fail
    go_quiet (first
      | (go_at_call 58; refine Calls.quiet_of (A.out _)))
    go_wp2
    go_ret
    exact ⟨ret_int (by rw [H.out, HX.out]), _, rfl⟩

theorem newM (w : World) : Calls Try.prog 39 #[] w fun e w' => e = .returned (.pointer (some ⟨w.heap.size, 0, none⟩)) ∧ w' = w.alloc (.cells #[.int .i64 0, .int .i64 0, .int .i64 0] 73) := by
  go_enter Try.func39, Try.ntmps39
  go_wp2
  go_ret
  exact ⟨rfl, rfl⟩
theorem new0A (w : World) (n m : Int) (h : m = (most0 n : Int)) : IsA ((w.alloc (.cells #[.int .i64 0, .int .i64 0, .int .i64 0] 73)).alloc (.cells #[.int .i64 m, .pointer (some ⟨w.heap.size, 0, none⟩), .slice none 0 0, .slice none 0 0, .slice none 0 0] 67)) (fun k => k = w.heap.size ∨ k = w.heap.size + 1) (w.heap.size + 1) w.heap.size (st0 n) := by
  subst h
  have e : (w.alloc (.cells #[.int .i64 0, .int .i64 0, .int .i64 0] 73)).heap.size = w.heap.size + 1 := by simp
  refine ⟨.slice none 0 0, .slice none 0 0, .slice none 0 0, ⟨?_, ?_, World.ownsRow_nil _ 0 2 1, World.ownsRow_nil _ 0 76 1, World.ownsRow_nil _ 0 3 1⟩, Or.inr rfl, Or.inl rfl, fun k hk => (by cases hk), fun k hk => (by cases hk), fun k hk => (by cases hk), fun k hk => (by simp; omega), Ok.start n⟩
  · have := heap_alloc_new (w.alloc (.cells #[.int .i64 0, .int .i64 0, .int .i64 0] 73)) (.cells #[.int .i64 (most0 n : Int), .pointer (some ⟨w.heap.size, 0, none⟩), .slice none 0 0, .slice none 0 0, .slice none 0 0] 67)
    rw [e] at this
    exact this
  · exact (Below.heap_alloc _ _ _ (by simp)).trans (heap_alloc_new w _)
set_option maxHeartbeats 1000000 in
theorem newA (n : Int) (w : World) : Calls Try.prog 16 #[.int .i64 n] w fun e w' => ∃ F pa pm, e = .returned (.pointer (some ⟨pa, 0, none⟩)) ∧ IsA w' F pa pm (st0 n) ∧ (∀ k, F k → w.heap.size ≤ k) ∧ Below w.heap.size w w' := by
  go_enter Try.func16, Try.ntmps16
  go_wp2_with fail
  all_goals
    refine (newM w).mono ?_
    rintro e w1 ⟨rfl, rfl⟩
    go_wp2
    go_ret
    exact ⟨_, _, _, rfl, new0A w n _ (by unfold most0; omega), fun k hk => by omega, ((Below.refl _ _).alloc (Nat.le_refl _) _).alloc (by simp) _⟩
end Go.Proofs.Ythfdooigljkfiaa

/- The arena: the walks of Get, Cell, Set, Give. -/
namespace Go.Proofs.Ythfdooigljkfiaa
open Go.ChangeShapes Go.WideShapes Go.ChangeAt Go.RowKit

set_option maxHeartbeats 1000000 in
theorem getA (pa pm : Nat) (s : St) (F : Nat → Prop) (c f : Int) (w : World) (h : IsA w F pa pm s) (hs : s.steps ≤ 100000000) :
    Calls Try.prog 30 #[.pointer (some ⟨pa, 0, none⟩), .int .i64 c, .int .i64 f] w fun e w' => e = .returned (.int .i64 (getS s c f)) ∧ IsA w' F pa pm (tick s) ∧ Kept F w w' := by
  have IS := hid h
  clear h
  go_enter Try.func30, Try.ntmps30
  go_wp2_with fail
  refine (stepA pa pm s F w IS.out hs).mono ?_
  rintro e w1 ⟨rfl, h1, k1⟩
  have H1 := hid h1
  have K1 := hid k1
  clear h1 k1 IS
  go_wp2_with fail
  refine (readA pa pm (tick s) F c f w1 H1.out).mono ?_
  rintro e w2 ⟨rfl, n, rfl⟩
  go_wp2
  go_ret
  exact ⟨rfl, H1.out.drewN n, K1.out.drewN n⟩

theorem cell_no {s : St} {c f : Int} (h : ¬ (0 ≤ getS s c f ∧ getS s c f < s.most)) : cellS s c f = -1 := by unfold cellS; rw [if_neg h]
theorem cell_yes {s : St} {c f : Int} (h : 0 ≤ getS s c f ∧ getS s c f < s.most) : cellS s c f = getS s c f := by unfold cellS; rw [if_pos h]

set_option maxHeartbeats 1000000 in
theorem cellA (pa pm : Nat) (s : St) (F : Nat → Prop) (c f : Int) (w : World) (h : IsA w F pa pm s) (hs : s.steps ≤ 100000000) :
    Calls Try.prog 28 #[.pointer (some ⟨pa, 0, none⟩), .int .i64 c, .int .i64 f] w fun e w' => e = .returned (.int .i64 (cellS s c f)) ∧ IsA w' F pa pm (tick s) ∧ Kept F w w' := by
  have IS := hid h
  have ht := h.ok.top
  clear h
  go_enter Try.func28, Try.ntmps28
  go_wp2_with fail
  refine (stepA pa pm s F w IS.out hs).mono ?_
  rintro e w1 ⟨rfl, h1, k1⟩
  have H1 := hid h1
  have K1 := hid k1
  clear h1 k1 IS
  go_wp2_with fail
  refine (readA pa pm (tick s) F c f w1 H1.out).mono ?_
  rintro e w2 ⟨rfl, n, rfl⟩
  have H2 := hid (H1.out.drewN n)
  have K2 := hid (K1.out.drewN n)
  clear H1 K1
  rw [get_tick]
  have hn := hid (cell_no (s := s) (c := c) (f := f))
  have hy := hid (cell_yes (s := s) (c := c) (f := f))
  generalize getS s c f = v at *
  obtain ⟨hpa, h0⟩ : pa < (w1.drewN n).heap.size ∧ (w1.drewN n).cell? ⟨pa, 0, none⟩ = some (.int .i64 s.most) := by
    obtain ⟨hv, tv, bv, hr, _⟩ := H2.out
    exact ⟨hr.cells.1, hr.cells.2.1⟩
  generalize w1.drewN n = w2 at *
  by_cases c1 : v < 0
  · have HN := hid (hn.out (by omega))
    clear hn hy h0
    go_wp2
    go_ret
    exact ⟨ret_int HN.out.symm, H2.out, K2.out⟩
  · have c1' : decide (v < 0) = false := by simp; omega
    by_cases c2 : (s.most : Int) ≤ v
    · have HN := hid (hn.out (by omega))
      clear hn hy c1
      go_wp2
      go_ret
      exact ⟨ret_int HN.out.symm, H2.out, K2.out⟩
    · have HY := hid (hy.out (by omega))
      have c2' : decide ((s.most : Int) ≤ v) = false := by simp; omega
      have hv1 : v ≤ 65536 := by omega
      have hv0 : 0 ≤ v := by omega
      clear hn hy c1 c2
      go_wp2
      go_ret
      exact ⟨ret_int HY.out.symm, H2.out, K2.out⟩

theorem set_no {s : St} {c f v : Int} (h : mayS s c f = false) : setS s c f v = tick s := by unfold setS; rw [h]; rfl
theorem set_yes {s : St} {c f v : Int} {x : ((Nat → Int) × Bool)} (h : mayS s c f = true) (hx : s.pl[c.toNat]? = some x) : setS s c f v = ⟨s.most, s.pl.set c.toNat (upd x.1 f.toNat v, true), s.back, s.steps + 1⟩ := by unfold setS; rw [if_pos h, has_of hx]

set_option maxHeartbeats 1000000 in
theorem setA (pa pm : Nat) (s : St) (F : Nat → Prop) (c f v : Int) (w : World) (h : IsA w F pa pm s) (hs : s.steps ≤ 100000000) :
    Calls Try.prog 41 #[.pointer (some ⟨pa, 0, none⟩), .int .i64 c, .int .i64 f, .int .i64 v] w fun e w' => e = .returned (.bool (mayS s c f)) ∧ IsA w' F pa pm (setS s c f v) ∧ Kept F w w' := by
  have IS := hid h
  clear h
  go_enter Try.func41, Try.ntmps41
  go_wp2_with fail
  refine (stepA pa pm s F w IS.out hs).mono ?_
  rintro e w1 ⟨rfl, h1, k1⟩
  have H1 := hid h1
  have K1 := hid k1
  clear h1 k1
  have M := hid (mayA pa pm (tick s) F c f w1 H1.out)
  cases hm : mayS s c f with
  | false =>
    have hm' : mayS (tick s) c f = false := hm
    have E := hid (set_no (v := v) hm)
    have hM := hid hm
    rw [hm'] at M
    clear hm hm' IS
    go_wp2_with fail
    refine M.out.mono ?_
    rintro e w2 ⟨rfl, rfl⟩
    go_wp2
    go_ret
    rw [E.out]
    exact ⟨ret_bool hM.out.symm, H1.out, K1.out⟩
  | true =>
    have hm' : mayS (tick s) c f = true := hm
    rw [hm'] at M
    obtain ⟨hl, hf0, hf9⟩ := may_yes hm
    obtain ⟨hc0, x, hx⟩ := live_iff.1 hl
    have E := hid (set_yes (v := v) hm hx)
    have OK := hid (IS.out.ok.set (c := c) (f := f) (v := v))
    have hlt : c.toNat < s.pl.length := (List.getElem?_eq_some_iff.1 hx).1
    have H1' := H1.out
    obtain ⟨hv, tv, bv, hr, f1, f2, f3, f4, f5, f6, ok⟩ := H1'
    obtain ⟨hpa, h0, h1, h2, h3, h4⟩ := hr.cells
    have hx' : (tick s).pl[c.toNat]? = some (x, true) := hx
    obtain ⟨g, cap, rfl, hg, hfz, hcell⟩ := hr.num (j := f.toNat) hx' (by omega)
    have hlen : s.pl.length ≤ 65536 := Nat.le_trans ok.fits ok.top
    have A := hid (fun w => atA c f hc0 (by omega) hf0 hf9 w)
    obtain ⟨o, ho⟩ : ∃ o : Int, c * 10 + f = o := ⟨_, rfl⟩
    have ho0 : 0 ≤ o := by omega
    have ho1 : o < ((s.pl.length * 10 : Nat) : Int) := by omega
    have OO := hid (show o.toNat = c.toNat * 10 + f.toNat by omega)
    have FF := hid (show f.toNat < 10 by omega)
    rw [← OO.out] at hcell
    rw [ho] at A
    have HR := hid hr
    have HX := hid hx'
    have hgp : g ≠ pa := fun e => own_ne_block hr.has hr.blk (by decide) (by rw [e]; rfl)
    have hpg : pa ≠ g := fun e => hgp e.symm
    replace h2 : w1.cell? ⟨pa, 2, none⟩ = some (.slice (some ⟨g, 0, none⟩) (s.pl.length * 10) cap) := h2
    obtain ⟨n, hn⟩ : ∃ n, n = s.pl.length * 10 := ⟨_, rfl⟩
    rw [← hn] at h2 ho1
    have hn' : n ≤ 655360 := by omega
    have HN := hid hn
    have HM := hid hm
    have F3 := hid f3
    have F6 := hid f6
    have hz := hfz o.toNat
    clear hr h0 h1 h3 h4 f3 f6 ok hx hx' hl hm hm' ho hlt hlen hn hc0 hf0 hf9 hfz H1 IS
    go_wp2_with fail
    refine M.out.mono ?_
    rintro e w2 ⟨rfl, rfl⟩
    go_wp2_with fail
    go_region_held3 (fun w' => w'.cell? ⟨pa, 2, none⟩ = some (.slice (some ⟨g, 0, none⟩) n cap)) (first | exact h2 | (simp [go_sem]; exact h2) | (simp [go_sem, hpg]; exact h2))
      (first
        | (go_at_call 58; refine (A.out _).mono ?_; rintro e w3 ⟨rfl, d, rfl⟩))
    go_wp2
    go_ret
    have R := (HR.out.plain ((Kept.refl _ _).drewN (1 + d))).stored HX.out FF.out OO.out v
    have hOK := OK.out
    rw [E.out] at hOK ⊢
    exact ⟨ret_bool HM.out.symm, ⟨_, _, _, R, f1, f2, F3.out, f4, f5, fun k hk => by simpa [World.setCell] using F6.out k hk, hOK⟩, (K1.out.drewN (1 + d)).setCell (p := ⟨g, o.toNat, none⟩) (Or.inl (F3.out g rfl)) _⟩

theorem give_no {s : St} {c : Int} (h : liveS s c = false) : giveS s c = tick s := by unfold giveS; rw [h]; rfl
theorem give_yes {s : St} {c : Int} {x : ((Nat → Int) × Bool)} (h : liveS s c = true) (hx : s.pl[c.toNat]? = some x) : giveS s c = ⟨s.most, s.pl.set c.toNat (x.1, false), s.back ++ [c.toNat], s.steps + 1⟩ := by unfold giveS; rw [if_pos h, has_of hx]
theorem info3 : (Try.prog.info? 3).map (fun i => (i.zero, i.size, i.bytes)) = some (some (.int .i64 0), 1, 8) := by kernel_rfl

section
variable {w w' : World} {F G : Nat → Prop} {pa pm : Nat} {hv tv bv : Value} {s s' : St}
/-- one more given back, laid by append and stored -/
theorem RawA.backed {W w1 : World} {g cap a : Nat} (h : RawA w pa pm hv tv bv s) (f1 : F pa) (f2 : F pm) (f3 : ∀ k, hv.ownBlock = some k → F k) (f4 : ∀ k, tv.ownBlock = some k → F k) (f5 : ∀ k, bv.ownBlock = some k → F k) (f6 : ∀ k, F k → k < w.heap.size)
    (hW : Kept (fun _ => False) w W) (ho : w1.ownsRow 0 3 1 (.slice (some ⟨g, 0, none⟩) (s.back.length + 1) cap) (s.back.length + 1) (row nat1 s.back ++ nat1 a)) (hg : W.grownBy w1 bv.ownBlock) (hat : bv.ownBlock = some g ∨ g = W.heap.size) (hlt : g < w1.heap.size) :
    RawA (w1.setCell ⟨pa, 4, none⟩ (.slice (some ⟨g, 0, none⟩) (s.back.length + 1) cap)) pa pm hv tv (.slice (some ⟨g, 0, none⟩) (s.back.length + 1) cap) ⟨s.most, s.pl, s.back ++ [a], s.steps⟩ ∧ Kept F w w1 ∧ (F g ∨ (w.heap.size ≤ g ∧ g < w1.heap.size)) := by
  have hk1 : Kept F w w1 := (hW.mono (fun _ e => e.elim)).grown hg (fun k hk => Or.inl (f5 k hk))
  have hsame : ∀ k, F k → bv.ownBlock ≠ some k → w1.heap[k]? = w.heap[k]? := fun k hF hk => (hg.block k (Nat.lt_of_lt_of_le (f6 k hF) hW.size) (fun e => hk e.symm)).trans (hW.block k (f6 k hF) fun e => e)
  have hpa := hsame pa f1 (own_ne_block h.back h.blk (by decide))
  have hpm := hsame pm f2 (own_ne_block h.back h.met (by decide))
  have hh : ∀ k, hv.ownBlock = some k → w1.heap[k]? = w.heap[k]? := fun k hk => hsame k (f3 k hk) (ne_of_own h.back h.has (by decide) hk)
  have ht : ∀ k, tv.ownBlock = some k → w1.heap[k]? = w.heap[k]? := fun k hk => hsame k (f4 k hk) (ne_of_own h.back h.tak (by decide) hk)
  have b1 := hpa.trans h.blk
  have b2 := hpm.trans h.met
  have o1 := own_same h.has hh
  have o2 := own_same h.tak ht
  refine ⟨⟨?_, blk_other b2 (fun e => h.ne e.symm), ownsRow_setCell_other o1 (own_ne_block o1 b1 (by decide)) _, ownsRow_setCell_other o2 (own_ne_block o2 b1 (by decide)) _, ?_⟩, hk1, ?_⟩
  · have := blk_set (j := 4) (u := .slice (some ⟨g, 0, none⟩) (s.back.length + 1) cap) b1
    simpa using this
  · have := ownsRow_setCell_other (a := ⟨pa, 4, none⟩) ho (own_ne_block ho b1 (by decide)) (.slice (some ⟨g, 0, none⟩) (s.back.length + 1) cap)
    simp only [row_snoc, List.length_append, List.length_cons, List.length_nil]
    simpa using this
  · rcases hat with q | q
    · exact Or.inl (f5 g q)
    · exact Or.inr ⟨by have := hW.size; omega, hlt⟩
end

set_option maxHeartbeats 2000000 in
theorem giveA (pa pm : Nat) (s : St) (F : Nat → Prop) (c : Int) (w : World) (h : IsA w F pa pm s) (hs : s.steps ≤ 100000000) :
    Calls Try.prog 23 #[.pointer (some ⟨pa, 0, none⟩), .int .i64 c] w fun e w' => e = .returned (.bool (liveS s c)) ∧ IsA w' (Grow F w w') pa pm (giveS s c) ∧ Kept F w w' := by
  have IS := hid h
  clear h
  go_enter Try.func23, Try.ntmps23
  go_wp2_with fail
  refine (stepA pa pm s F w IS.out hs).mono ?_
  rintro e w1 ⟨rfl, h1, k1⟩
  have H1 := hid h1
  have K1 := hid k1
  clear h1 k1
  have M := hid (liveA pa pm (tick s) F c w1 H1.out)
  cases hm : liveS s c with
  | false =>
    have hm' : liveS (tick s) c = false := hm
    have E := hid (give_no hm)
    have HM := hid hm
    rw [hm'] at M
    clear hm hm'
    go_wp2_with fail
    refine M.out.mono ?_
    rintro e w2 ⟨rfl, rfl⟩
    go_wp2
    go_ret
    rw [E.out]
    exact ⟨ret_bool HM.out.symm, H1.out.widen (fun _ e => Or.inl e) (Grow.lt IS.out.lt K1.out.size), K1.out⟩
  | true =>
    have hm' : liveS (tick s) c = true := hm
    rw [hm'] at M
    obtain ⟨hc0, x, hx⟩ := live_iff.1 hm
    have E := hid (give_yes hm hx)
    have OK := hid (IS.out.ok.give (c := c))
    have hlt : c.toNat < s.pl.length := (List.getElem?_eq_some_iff.1 hx).1
    have H1' := H1.out
    obtain ⟨hv, tv, bv, hr, f1, f2, f3, f4, f5, f6, ok⟩ := H1'
    have hx' : (tick s).pl[c.toNat]? = some (x, true) := hx
    obtain ⟨g, cap, rfl, hg, hfz, hcell⟩ := hr.mark hx'
    obtain ⟨hpa, h0, h1, h2, h3, h4⟩ := hr.cells
    obtain ⟨ba, bc, rfl⟩ := own_form hr.back
    have hlen : s.pl.length ≤ 65536 := Nat.le_trans ok.fits ok.top
    have hbl : s.back.length ≤ 65536 := Nat.le_trans ok.back_le hlen
    have hgp : g ≠ pa := fun e => own_ne_block hr.tak hr.blk (by decide) (by rw [e]; rfl)
    have hpg : pa ≠ g := fun e => hgp e.symm
    have hz := hfz c.toNat
    have hzp : w1.frozen? ⟨pa, 4, none⟩ = false := blk_free hr.blk
    replace h3 : w1.cell? ⟨pa, 3, none⟩ = some (.slice (some ⟨g, 0, none⟩) s.pl.length cap) := h3
    replace h4 : w1.cell? ⟨pa, 4, none⟩ = some (.slice ba s.back.length bc) := h4
    have hcl : c < (s.pl.length : Int) := by omega
    simp at hcell
    have HR := hid (hr.marked hx' false (m := 0) rfl)
    have KW := hid ((Kept.refl F w1).setCell (p := ⟨g, c.toNat, none⟩) (Or.inl (f4 g rfl)) (.int .i8 0))
    have CC := hid (show ((c.toNat : Nat) : Int) = c by omega)
    have HM := hid hm
    have F3 := hid f3
    have F4 := hid f4
    have F5 := hid f5
    have F6 := hid f6
    obtain ⟨ti, hti, hz0, hz1, hz2⟩ := info_parts info3
    have HT := hid hti
    have Z0 := hid hz0
    have Z1 := hid hz1
    have Z2 := hid hz2
    clear hr h0 h1 h2 f3 f4 f5 f6 ok hx hx' hm hm' hlt hfz hti hz0 hz1 hz2
    go_wp2_with fail
    refine M.out.mono ?_
    rintro e w2 ⟨rfl, rfl⟩
    clear M
    have hpx : (w2.setCell ⟨g, c.toNat, none⟩ (.int .i8 0)).heap[pa]? = w2.heap[pa]? := Below.heap_setCell _ _ _ _ hpg
    have hsz : (w2.setCell ⟨g, c.toNat, none⟩ (.int .i8 0)).heap.size = w2.heap.size := by simp [World.setCell]
    have HPX := hid hpx
    have HSZ := hid hsz
    have NW : Hid (∀ j u, [Value.int .i64 c][j]? = some u → ((w2.setCell ⟨g, c.toNat, none⟩ (.int .i8 0)).alloc (.cells #[.int .i64 c] 3)).cell? ((⟨w2.heap.size, 0, none⟩ : Addr).add j) = some u) := by
      have q := World.news_of_block (heap_alloc_new (w2.setCell ⟨g, c.toNat, none⟩ (.int .i8 0)) (.cells #[.int .i64 c] 3))
      rw [hsz] at q
      exact q
    clear hpx hsz
    go_wp2_with (at_builtin; refine wpList_append_lies _ rfl (.tmp 21) (.tmp 23) 23 rfl 0 3 ti _ 1 8 Try.underlying23 HT.out Z0.out Z1.out Z2.out rfl (by decide) (.slice ba s.back.length bc) s.back.length (row nat1 s.back) rfl (World.ownsRow.alloc HR.out.back _) ⟨w2.heap.size, 0, none⟩ 1 1 [.int .i64 c] rfl rfl NW.out (by simp [Value.oneCell']) (by decide) (by simp [maxLen]; omega) (by omega) (Nat.zero_le _) (w2.heap.size + 1) (by simp) ?_; intro g2 cap2 w3 ho hgr hat hlt; have hpw : w3.heap[pa]? = w2.heap[pa]? := ((hgr.block pa (by simp; omega) (fun e => own_ne_block HR.out.back HR.out.blk (by decide) e.symm)).trans (Below.heap_alloc _ _ _ (by simp; omega))).trans HPX.out; have e1 : w3.cell? ⟨pa, 4, none⟩ = some (.slice ba s.back.length bc) := (World.cell?_of_block hpw).trans h4; have e2 : w3.frozen? ⟨pa, 4, none⟩ = false := (World.frozen?_of_block hpw).trans hzp; have hpa1 : pa < w3.heap.size := Nat.lt_of_lt_of_le hpa (Nat.le_trans (by simp) hgr.size); have HO := hid ho; have HG := hid hgr; have HA := hid hat; have HL := hid hlt; clear ho hgr hat hlt hpw h3 h4 hcell hz hzp)
    go_ret
    have hb := HR.out.backed (a := c.toNat) f1 f2 F3.out F4.out F5.out (by intro k hk; rw [HSZ.out]; exact F6.out k hk) ((Kept.refl _ _).alloc _) (by simp only [nat1, CC.out]; exact HO.out) HG.out (HA.out.imp id (fun e => by rw [e]; simp)) HL.out
    have hOK := OK.out
    rw [E.out] at hOK ⊢
    have K3 : Kept F w w3 := K1.out.trans' (KW.out.trans' hb.2.1)
    have K4 := K3.setCell (p := ⟨pa, 4, none⟩) (Or.inl f1) (.slice (some ⟨g2, 0, none⟩) (s.back.length + 1) cap2)
    refine ⟨ret_bool HM.out.symm, ⟨_, _, _, hb.1, Or.inl f1, Or.inl f2, fun k hk => Or.inl (F3.out k hk), fun k hk => Or.inl (F4.out k hk), fun k hk => ?_, Grow.lt IS.out.lt K4.size, hOK⟩, K4⟩
    cases hk
    exact hb.2.2.imp id fun e => ⟨by have := e.1; rw [HSZ.out] at this; exact Nat.le_trans K1.out.size this, by simpa [World.setCell] using e.2⟩
end Go.Proofs.Ythfdooigljkfiaa

/- Ten zeros appended to a row of numbers: append(l, make([]int64, 10)...). -/
namespace Go.Proofs.Ythfdooigljkfiaa
open Go.ChangeShapes Go.WideShapes Go.ChangeAt Go.RowKit

theorem info2 : (Try.prog.info? 2).map (fun i => (i.zero, i.size, i.bytes)) = some (some (.int .i64 0), 1, 8) := by kernel_rfl
/-- a cell that has nothing yet -/
def cl0 : ((Nat → Int) × Bool) := (fun _ => 0, false)
theorem zero10 : (Builtin.zeroCells #[.int .i64 0] 10).toList = ten cl0 := by kernel_rfl
theorem zero10' : Builtin.zeroCells (Value.int .i64 0).cells 10 = (ten cl0).toArray := by kernel_rfl

/-- room for them -/
theorem zeros_room (w : World) (ty : TypeId) (i : TypeInfo) (hi : Try.prog.info? 2 = some i) (hz : i.zero = some (.int .i64 0)) (hs : i.size = 1) (hb : i.bytes = 8)
    (g sLen sCap : Nat) (cur : Array Value) (hg : w.heap[g]? = some (.cells cur 2 (0, 0))) (hroom : sLen + 10 ≤ sCap) (hfit : sLen + 10 ≤ cur.size) :
    (Builtin.append_ #[22, 3] ty #[.slice (some ⟨g, 0, none⟩) sLen sCap, .int .i64 10]).run Try.prog w =
      .ok (.slice (some ⟨g, 0, none⟩) (sLen + 10) sCap) (w.setRow g (cur.toList.take sLen ++ ten cl0 ++ cur.toList.drop (sLen + 10)).toArray) := by
  have hst := run_storeCells_at Try.prog g sLen 2 (ten cl0) 0 cur w hg (by simpa [ten_len] using hfit) (ten_one _)
  simp only [Nat.add_zero] at hst
  have hw : IntKind.i64.wrap (10 : Int) = 10 := by decide
  simp [Builtin.append_, run_underlying Try.underlying22, run_underlying Try.underlying3, sizeOf, typeInfo, zeroValue, hi, hz, hs, hb, asInt, asIntOf, hw, hroom, Addr.add_lit, zero10', hst, ten_len]

theorem append_ten (w : World) (ty : TypeId) (v : Value) (n : Nat) (xs : List Value) (hown : w.ownsRow 0 2 1 v n xs) (hn : n ≤ 1000000) :
    ∃ g cap w', (Builtin.append_ #[22, 3] ty #[v, .int .i64 10]).run Try.prog w = .ok (.slice (some ⟨g, 0, none⟩) (n + 10) cap) w' ∧
      w'.ownsRow 0 2 1 (.slice (some ⟨g, 0, none⟩) (n + 10) cap) (n + 10) (xs ++ ten cl0) ∧ w.grownBy w' v.ownBlock ∧ (v.ownBlock = some g ∨ g = w.heap.size) ∧ g < w'.heap.size := by
  obtain ⟨i, hi, hz, hs, hb⟩ := info_parts info2
  have hlen : (xs ++ ten cl0).length = (n + 10) * 1 := by rw [List.length_append, hown.1, ten_len, Nat.add_mul]
  have hxl : xs.length = n := by have := hown.1; omega
  have grown : ∀ (old : Nat), ∀ (row : Option Nat),
      (w.drew.alloc (.cells (xs.toArray ++ (ten cl0).toArray ++ Builtin.zeroCells (Value.int .i64 0).cells (grownCap w (n + 10) old 2 - (n + 10))) 2)).ownsRow 0 2 1
        (.slice (some ⟨w.heap.size, 0, none⟩) (n + 10) (grownCap w (n + 10) old 2)) (n + 10) (xs ++ ten cl0) ∧
      w.grownBy (w.drew.alloc (.cells (xs.toArray ++ (ten cl0).toArray ++ Builtin.zeroCells (Value.int .i64 0).cells (grownCap w (n + 10) old 2 - (n + 10))) 2)) row := by
    intro old row
    have hge := grownCap_ge w (n + 10) old 2
    have hcm : grownCap w (n + 10) old 2 ≤ maxLen := grownCap_le_maxLen w (n + 10) old 2 (by simp only [maxLen]; omega)
    refine ⟨⟨hlen, .inr ⟨w.heap.size, _, _, rfl, Nat.zero_le _, heap_alloc_new w.drew _, hge, hcm, ?_, ?_⟩⟩, ⟨rfl, rfl, rfl, by simp, fun k hk _ => Below.heap_alloc w.drew _ k hk⟩⟩
    · simp only [Array.size_append, List.size_toArray, size_zeroCells, hxl, ten_len]
      simp [Value.cells]
      omega
    · simp only [Array.toList_append, List.append_assoc]
      rw [← List.append_assoc, ← hlen]
      exact List.take_left
  rcases hown.2 with ⟨rfl, rfl⟩ | ⟨g, cap, cur, rfl, hbg, hg, hnc, hcm, hcs, htake⟩
  · have hx : xs = [] := List.eq_nil_of_length_eq_zero hxl
    subst hx
    have hr := Lib.run_append_nil_zeros (P := Try.prog) w 22 3 ty 2 i (.int .i64 0) .i64 .i64 Try.underlying22 Try.underlying3 hi hz 10 (by decide) (by omega) (by decide) (by rw [hb]; decide)
    have hgr := grown 0 (Value.ownBlock (.slice none 0 0))
    rw [zero10'] at hr
    simp only [Nat.zero_add, List.nil_append, Array.empty_append] at hgr ⊢
    exact ⟨_, _, _, hr, hgr.1, hgr.2, Or.inr rfl, by simp⟩
  · by_cases hroom : n + 10 ≤ cap
    · have hr := zeros_room w ty i hi hz hs hb g n cap cur hg hroom (by rw [hcs]; omega)
      refine ⟨g, cap, _, hr, ⟨hlen, .inr ⟨g, cap, _, rfl, hbg, setRow_heap w g cur _ 2 _ hg, hroom, hcm, ?_, ?_⟩⟩, ⟨rfl, rfl, rfl, by simp, fun k _ hk => setRow_other w g k _ (fun e => hk (by simp [Value.ownBlock, e]))⟩, Or.inl rfl, ?_⟩
      · simp only [List.size_toArray, List.length_append, List.length_take, List.length_drop, Array.length_toList, ten_len]
        omega
      · rw [show cur.toList.take n = xs by have := htake; rwa [Nat.mul_one] at this, ← hlen]
        exact List.take_left
      · have := lt_of_block hg
        simpa using this
    · have holds : ∀ j u, xs[j]? = some u → w.cell? ((⟨g, 0, none⟩ : Addr).add j) = some u := hown.cells (g := g) rfl
      have hr := Lib.run_append_grow_zeros (P := Try.prog) w 22 3 ty 2 i (.int .i64 0) .i64 .i64 Try.underlying22 Try.underlying3 hi hz (some ⟨g, 0, none⟩) n cap xs (run_firstCells_some (P := Try.prog) w.drew i.size n ⟨g, 0, none⟩ n cap xs (by rw [hs]; omega) (by simpa using holds)) 10 (by decide) (by omega) (by omega) (by omega) (by rw [hb]; decide) (growslice_fits (by omega) (by rw [hb]; omega))
      have hgr := grown cap (Value.ownBlock (.slice (some ⟨g, 0, none⟩) n cap))
      rw [zero10'] at hr
      exact ⟨_, _, _, hr, hgr.1, hgr.2, Or.inr rfl, by simp⟩
end Go.Proofs.Ythfdooigljkfiaa

/- The arena: the walks of fresh, wipe, next, Take. -/
namespace Go.Proofs.Ythfdooigljkfiaa
open Go.ChangeShapes Go.WideShapes Go.ChangeAt Go.RowKit

set_option maxHeartbeats 1000000 in
theorem freshA (k : Nat) (hk : k < 10) (w : World) : Calls Try.prog 70 #[.int .i64 k] w fun e w' => e = .returned (.int .i64 (fr k)) ∧ ∃ n, w' = w.drewN n := by
  match k, hk with
  | 0, _ | 1, _ | 2, _ | 3, _ | 4, _ | 5, _ | 6, _ | 7, _ | 8, _ | 9, _ =>
    go_enter Try.func70, Try.ntmps70
    go_wp2
    go_ret
    exact ⟨rfl, 0, rfl⟩

/-- the first k numbers anew -/
def mix (k : Nat) (x : Nat → Int) : Nat → Int := fun j => if j < k then fr j else x j
theorem mix_zero (x : Nat → Int) : mix 0 x = x := by funext j; simp [mix]
theorem mix_step (k : Nat) (x : Nat → Int) : upd (mix k x) k (fr k) = mix (k + 1) x := by
  funext j
  unfold upd mix
  by_cases h : j = k
  · subst h; simp
  · by_cases h' : j < k
    · rw [if_neg h, if_pos h', if_pos (by omega)]
    · rw [if_neg h, if_neg h', if_neg (by omega)]
theorem ten_mix (x : Nat → Int) (b : Bool) : ten (mix 10 x, b) = ten (fr, b) := by simp [ten, mix]

set_option maxHeartbeats 2000000 in
theorem wipeA (pa pm : Nat) (hv tv bv : Value) (s : St) (F : Nat → Prop) (c : Nat) (x : ((Nat → Int) × Bool)) (hx : s.pl[c]? = some x) (hlen : s.pl.length ≤ 65537) (w : World) (h : RawA w pa pm hv tv bv s) (f3 : ∀ k, hv.ownBlock = some k → F k) :
    Calls Try.prog 56 #[.pointer (some ⟨pa, 0, none⟩), .int .i64 c] w fun e w' => e = .returned (.tuple #[]) ∧ RawA w' pa pm hv tv bv ⟨s.most, s.pl.set c (fr, x.2), s.back, s.steps⟩ ∧ Kept F w w' := by
  have HR := hid h
  have HX := hid hx
  clear h hx
  go_enter Try.func56, Try.ntmps56
  go_wp2
  go_loopw [5] (fun kv wr => ∃ k : Nat, kv = .int .i64 k ∧ k ≤ 10 ∧ RawA wr pa pm hv tv bv ⟨s.most, s.pl.set c (mix k x.1, x.2), s.back, s.steps⟩ ∧ Kept F w wr) (fun k _ => 10 - (intOf k).toNat)
  case atStart =>
    refine ⟨0, rfl, by decide, ?_, Kept.refl _ _⟩
    rw [mix_zero]
    have e : s.pl.set c (x.1, x.2) = s.pl := List.ext_getElem? fun i => by
      by_cases hi : c = i
      · subst hi; rw [List.getElem?_set_self (List.getElem?_eq_some_iff.1 HX.out).1, HX.out]
      · rw [List.getElem?_set_ne hi]
    rw [e]
    exact HR.out
  case round =>
    obtain ⟨k, rfl, hk, hR, hK⟩ := hrel
    have hcl : c < s.pl.length := (List.getElem?_eq_some_iff.1 HX.out).1
    have hx : (s.pl.set c (mix k x.1, x.2))[c]? = some (mix k x.1, x.2) := List.getElem?_set_self hcl
    have KK := hid hK
    have RR := hid hR
    have FX := hid hx
    by_cases hlt : k < 10
    · obtain ⟨g, cap, rfl, hg, hfz, hcell⟩ := hR.num (j := k) hx hlt
      obtain ⟨hpa, h0, h1, h2, h3, h4⟩ := hR.cells
      have hgp : g ≠ pa := fun e => own_ne_block hR.has hR.blk (by decide) (by rw [e]; rfl)
      have hpg : pa ≠ g := fun e => hgp e.symm
      have A := hid (fun w => atA c k (by omega) (by omega) (by omega) (by omega) w)
      have B := hid (fun w => freshA k hlt w)
      obtain ⟨o, ho⟩ : ∃ o : Nat, o = c * 10 + k := ⟨_, rfl⟩
      have OO := hid ho
      have ho' : (c : Int) * 10 + (k : Int) = (o : Int) := by omega
      rw [ho'] at A
      rw [← ho] at hcell
      have hl : (s.pl.set c (mix k x.1, x.2)).length * 10 = s.pl.length * 10 := by simp
      replace h2 : wr.cell? ⟨pa, 2, none⟩ = some (.slice (some ⟨g, 0, none⟩) (s.pl.length * 10) cap) := by
        rw [h2]
        simp
      have ho1 : (o : Int) < ((s.pl.length * 10 : Nat) : Int) := by omega
      obtain ⟨n, hn⟩ : ∃ n, n = s.pl.length * 10 := ⟨_, rfl⟩
      rw [← hn] at h2 ho1
      have hn' : n ≤ 655370 := by omega
      have hz := hfz o
      have F3 := hid f3
      have LT := hid hlt
      generalize hfr : fr k = fv at B
      have HF := hid hfr
      clear hR hK h0 h1 h3 h4 ho ho' hl hn hfz hx hlen hcl f3 hfr
      go_wp2_with fail
      go_region_held3 (fun w' => w'.cell? ⟨pa, 2, none⟩ = some (.slice (some ⟨g, 0, none⟩) n cap)) (first | exact h2 | (simp [go_sem]; exact h2) | (simp [go_sem, hpg]; exact h2))
        (first
          | (go_at_call 58; refine (A.out _).mono ?_; rintro e w3 ⟨rfl, d, rfl⟩)
          | (go_at_call 70; refine (B.out _).mono ?_; rintro e w4 ⟨rfl, d2, rfl⟩))
      go_wp2
      go_roundw
      case rel =>
        have R := (RR.out.plain ((Kept.refl _ _).drewN (1 + d + d2))).stored FX.out LT.out OO.out fv
        refine ⟨k + 1, by go_num, by omega, ?_, (KK.out.drewN (1 + d + d2)).setCell (p := ⟨g, o, none⟩) (Or.inl (F3.out g rfl)) _⟩
        rw [← HF.out] at R ⊢
        rw [List.set_set, mix_step] at R
        exact R
      case measure => simp [intOf]; omega
    · obtain rfl : k = 10 := by omega
      go_wp2
      go_end0
      have e : (s.pl.set c (mix 10 x.1, x.2)).set c (fr, x.2) = s.pl.set c (fr, x.2) := by rw [List.set_set]
      have e1 := row_like (f := ten) _ c _ (fr, x.2) FX.out (ten_mix x.1 x.2).symm
      have e2 := row_like (f := mk8) _ c _ (fr, x.2) FX.out rfl
      rw [e] at e1 e2
      have R := RR.out
      exact ⟨rfl, ⟨R.blk, R.met, by have q := R.has; simp only [List.length_set] at q ⊢; rw [e1]; exact q, by have q := R.tak; simp only [List.length_set] at q ⊢; rw [e2]; exact q, R.back⟩, KK.out⟩

/-- an arena whose rows may differ in length -/
structure RawG (w : World) (pa pm : Nat) (hv tv bv : Value) (most : Nat) (hs ts : List ((Nat → Int) × Bool)) (bk : List Nat) (steps : Nat) : Prop where
  blk : w.heap[pa]? = some (.cells #[.int .i64 most, .pointer (some ⟨pm, 0, none⟩), hv, tv, bv] 67 (0, 0))
  met : w.heap[pm]? = some (.cells #[.int .i64 steps, .int .i64 0, .int .i64 0] 73 (0, 0))
  has : w.ownsRow 0 2 1 hv (hs.length * 10) (row ten hs)
  tak : w.ownsRow 0 76 1 tv ts.length (row mk8 ts)
  back : w.ownsRow 0 3 1 bv bk.length (row nat1 bk)
theorem RawA.toG {w : World} {pa pm : Nat} {hv tv bv : Value} {s : St} (h : RawA w pa pm hv tv bv s) : RawG w pa pm hv tv bv s.most s.pl s.pl s.back s.steps := ⟨h.blk, h.met, h.has, h.tak, h.back⟩
theorem RawG.toA {w : World} {pa pm : Nat} {hv tv bv : Value} {most steps : Nat} {pl : List ((Nat → Int) × Bool)} {bk : List Nat} (h : RawG w pa pm hv tv bv most pl pl bk steps) : RawA w pa pm hv tv bv ⟨most, pl, bk, steps⟩ := ⟨h.blk, h.met, h.has, h.tak, h.back⟩

section
variable {w W w1 : World} {F : Nat → Prop} {pa pm : Nat} {hv tv bv : Value} {most steps : Nat} {hs ts : List ((Nat → Int) × Bool)} {bk : List Nat} {g cap : Nat} {x : ((Nat → Int) × Bool)}
theorem RawG.ne (h : RawG w pa pm hv tv bv most hs ts bk steps) : pa ≠ pm := fun e => by
  have h1 := h.blk
  rw [e, h.met] at h1
  injection h1 with h1
  injection h1 with _ h1 _
  exact absurd h1 (by decide)
theorem RawG.pushT (h : RawG w pa pm hv tv bv most hs ts bk steps) (f1 : F pa) (f2 : F pm) (f3 : ∀ k, hv.ownBlock = some k → F k) (f4 : ∀ k, tv.ownBlock = some k → F k) (f5 : ∀ k, bv.ownBlock = some k → F k) (f6 : ∀ k, F k → k < w.heap.size)
    (hW : Kept (fun _ => False) w W) (ho : w1.ownsRow 0 76 1 (.slice (some ⟨g, 0, none⟩) (ts.length + 1) cap) (ts.length + 1) (row mk8 ts ++ mk8 x)) (hg : W.grownBy w1 tv.ownBlock) (hat : tv.ownBlock = some g ∨ g = W.heap.size) (hlt : g < w1.heap.size) :
    RawG (w1.setCell ⟨pa, 3, none⟩ (.slice (some ⟨g, 0, none⟩) (ts.length + 1) cap)) pa pm hv (.slice (some ⟨g, 0, none⟩) (ts.length + 1) cap) bv most hs (ts ++ [x]) bk steps ∧ Kept F w w1 ∧ (F g ∨ (w.heap.size ≤ g ∧ g < w1.heap.size)) := by
  have hk1 : Kept F w w1 := (hW.mono (fun _ e => e.elim)).grown hg (fun k hk => Or.inl (f4 k hk))
  have hsame : ∀ k, F k → tv.ownBlock ≠ some k → w1.heap[k]? = w.heap[k]? := fun k hF hk => (hg.block k (Nat.lt_of_lt_of_le (f6 k hF) hW.size) (fun e => hk e.symm)).trans (hW.block k (f6 k hF) fun e => e)
  have b1 := (hsame pa f1 (own_ne_block h.tak h.blk (by decide))).trans h.blk
  have b2 := (hsame pm f2 (own_ne_block h.tak h.met (by decide))).trans h.met
  have o1 := own_same h.has fun k hk => hsame k (f3 k hk) (ne_of_own h.tak h.has (by decide) hk)
  have o2 := own_same h.back fun k hk => hsame k (f5 k hk) (ne_of_own h.tak h.back (by decide) hk)
  refine ⟨⟨?_, blk_other b2 (fun e => h.ne e.symm), ownsRow_setCell_other o1 (own_ne_block o1 b1 (by decide)) _, ?_, ownsRow_setCell_other o2 (own_ne_block o2 b1 (by decide)) _⟩, hk1, ?_⟩
  · have := blk_set (j := 3) (u := .slice (some ⟨g, 0, none⟩) (ts.length + 1) cap) b1
    simpa using this
  · have := ownsRow_setCell_other (a := ⟨pa, 3, none⟩) ho (own_ne_block ho b1 (by decide)) (.slice (some ⟨g, 0, none⟩) (ts.length + 1) cap)
    simp only [row_snoc, List.length_append, List.length_cons, List.length_nil]
    simpa using this
  · rcases hat with q | q
    · exact Or.inl (f4 g q)
    · exact Or.inr ⟨by have := hW.size; omega, hlt⟩
theorem RawG.pushH (h : RawG w pa pm hv tv bv most hs ts bk steps) (f1 : F pa) (f2 : F pm) (f3 : ∀ k, hv.ownBlock = some k → F k) (f4 : ∀ k, tv.ownBlock = some k → F k) (f5 : ∀ k, bv.ownBlock = some k → F k) (f6 : ∀ k, F k → k < w.heap.size)
    (hW : Kept (fun _ => False) w W) (ho : w1.ownsRow 0 2 1 (.slice (some ⟨g, 0, none⟩) (hs.length * 10 + 10) cap) (hs.length * 10 + 10) (row ten hs ++ ten x)) (hg : W.grownBy w1 hv.ownBlock) (hat : hv.ownBlock = some g ∨ g = W.heap.size) (hlt : g < w1.heap.size) :
    RawG (w1.setCell ⟨pa, 2, none⟩ (.slice (some ⟨g, 0, none⟩) (hs.length * 10 + 10) cap)) pa pm (.slice (some ⟨g, 0, none⟩) (hs.length * 10 + 10) cap) tv bv most (hs ++ [x]) ts bk steps ∧ Kept F w w1 ∧ (F g ∨ (w.heap.size ≤ g ∧ g < w1.heap.size)) := by
  have hk1 : Kept F w w1 := (hW.mono (fun _ e => e.elim)).grown hg (fun k hk => Or.inl (f3 k hk))
  have hsame : ∀ k, F k → hv.ownBlock ≠ some k → w1.heap[k]? = w.heap[k]? := fun k hF hk => (hg.block k (Nat.lt_of_lt_of_le (f6 k hF) hW.size) (fun e => hk e.symm)).trans (hW.block k (f6 k hF) fun e => e)
  have b1 := (hsame pa f1 (own_ne_block h.has h.blk (by decide))).trans h.blk
  have b2 := (hsame pm f2 (own_ne_block h.has h.met (by decide))).trans h.met
  have o1 := own_same h.tak fun k hk => hsame k (f4 k hk) (ne_of_own h.has h.tak (by decide) hk)
  have o2 := own_same h.back fun k hk => hsame k (f5 k hk) (ne_of_own h.has h.back (by decide) hk)
  refine ⟨⟨?_, blk_other b2 (fun e => h.ne e.symm), ?_, ownsRow_setCell_other o1 (own_ne_block o1 b1 (by decide)) _, ownsRow_setCell_other o2 (own_ne_block o2 b1 (by decide)) _⟩, hk1, ?_⟩
  · have := blk_set (j := 2) (u := .slice (some ⟨g, 0, none⟩) (hs.length * 10 + 10) cap) b1
    simpa using this
  · have := ownsRow_setCell_other (a := ⟨pa, 2, none⟩) ho (own_ne_block ho b1 (by decide)) (.slice (some ⟨g, 0, none⟩) (hs.length * 10 + 10) cap)
    simp only [row_snoc, List.length_append, List.length_cons, List.length_nil]
    rw [show (hs.length + (0 + 1)) * 10 = hs.length * 10 + 10 by omega]
    exact this
  · rcases hat with q | q
    · exact Or.inl (f3 g q)
    · exact Or.inr ⟨by have := hW.size; omega, hlt⟩
end

/-- as IsA, of any state -/
def PreA (w : World) (F : Nat → Prop) (pa pm : Nat) (s : St) : Prop :=
  ∃ hv tv bv, RawA w pa pm hv tv bv s ∧ F pa ∧ F pm ∧ (∀ k, hv.ownBlock = some k → F k) ∧ (∀ k, tv.ownBlock = some k → F k) ∧ (∀ k, bv.ownBlock = some k → F k) ∧ (∀ k, F k → k < w.heap.size)
theorem PreA.toA {w : World} {F : Nat → Prop} {pa pm : Nat} {s : St} (h : PreA w F pa pm s) (ok : Ok s) : IsA w F pa pm s := by
  obtain ⟨hv, tv, bv, hr, h1, h2, h3, h4, h5, h6⟩ := h
  exact ⟨hv, tv, bv, hr, h1, h2, h3, h4, h5, h6, ok⟩

set_option maxHeartbeats 2000000 in
theorem next_back (pa pm most steps : Nat) (pl : List ((Nat → Int) × Bool)) (bk : List Nat) (a : Nat) (F : Nat → Prop) (w : World) (h : IsA w F pa pm ⟨most, pl, bk ++ [a], steps⟩) :
    Calls Try.prog 55 #[.pointer (some ⟨pa, 0, none⟩)] w fun e w' => e = .returned (.tuple #[.int .i64 a, .bool true]) ∧ PreA w' F pa pm ⟨most, pl, bk, steps⟩ ∧ Kept F w w' := by
  obtain ⟨hv, tv, bv, hr, f1, f2, f3, f4, f5, f6, ok⟩ := h
  obtain ⟨hpa, h0, h1, h2, h3, h4⟩ := hr.cells
  have hfz : w.frozen? ⟨pa, 4, none⟩ = false := blk_free hr.blk
  obtain ⟨g, cap, rfl, _, hg⟩ := hr.back.form (by simp)
  have hc := hr.back.cellAt bk.length (by simp)
  simp only [row_append] at hc
  rw [List.getElem?_append_right (by rw [row_length nat1_len]; omega), row_length nat1_len] at hc
  simp [row, nat1] at hc
  have HR := hid hr
  have hcap : bk.length < cap := by
    obtain ⟨_, ⟨h', _⟩ | ⟨g', cap', cur, h', _, _, hn, _⟩⟩ := hr.back
    · cases h'
    · cases h'; simp at hn; omega
  have hgp : pa ≠ g := fun e => own_ne_block hr.back hr.blk (by decide) (by simp [Value.ownBlock, e])
  have hbl := ok.back_le
  have hlen : pl.length ≤ 65536 := Nat.le_trans ok.fits ok.top
  simp only [List.length_append, List.length_cons, List.length_nil] at h4 hbl
  have F3 := hid f3
  have F4 := hid f4
  have F5 := hid f5
  have F6 := hid f6
  clear hr h0 h1 h2 h3 f3 f4 f5 f6 ok
  go_enter Try.func55, Try.ntmps55
  go_wp2
  go_ret2
  have hr := HR.out
  have hbk2 := hr.back
  simp only [row_append, List.length_append, List.length_cons, List.length_nil] at hbk2
  have hpop := ownsRow_pop (row_length nat1_len bk) hbk2
  refine ⟨rfl, ⟨hv, tv, .slice (some ⟨g, 0, none⟩) bk.length cap, ⟨?_, blk_other hr.met (fun e => hr.ne e.symm), ownsRow_setCell_other hr.has (own_ne_block hr.has hr.blk (by decide)) _, ownsRow_setCell_other hr.tak (own_ne_block hr.tak hr.blk (by decide)) _, ownsRow_setCell_other hpop (by simp [Value.ownBlock]; omega) _⟩, f1, f2, F3.out, F4.out, fun k hk => F5.out k hk, fun k hk => by simpa [World.setCell] using F6.out k hk⟩, (Kept.refl _ _).setCell (Or.inl f1) _⟩
  have := blk_set (j := 4) (u := .slice (some ⟨g, 0, none⟩) bk.length cap) hr.blk
  simpa using this

set_option maxHeartbeats 2000000 in
theorem next_full (pa pm most steps : Nat) (pl : List ((Nat → Int) × Bool)) (hl : pl.length = most) (F : Nat → Prop) (w : World) (h : IsA w F pa pm ⟨most, pl, [], steps⟩) :
    Calls Try.prog 55 #[.pointer (some ⟨pa, 0, none⟩)] w fun e w' => e = .returned (.tuple #[.int .i64 (-1), .bool false]) ∧ ∃ n, w' = w.drewN n := by
  obtain ⟨hv, tv, bv, hr, f1, f2, f3, f4, f5, f6, ok⟩ := h
  obtain ⟨hpa, h0, h1, h2, h3, h4⟩ := hr.cells
  obtain ⟨ta, tc, rfl⟩ := own_form hr.tak
  obtain ⟨ba, bc, rfl⟩ := own_form hr.back
  have hlen : pl.length ≤ 65536 := Nat.le_trans ok.fits ok.top
  have c' : ((pl.length : Int) == (most : Int)) = true := by rw [beq_iff_eq]; omega
  clear hr h1 h2 f1 f2 f3 f4 f5 f6 ok hl
  simp only [] at h0 h3 h4 hlen
  go_enter Try.func55, Try.ntmps55
  go_wp2
  go_ret2
  exact ⟨rfl, 0, rfl⟩

theorem info56 : (Try.prog.info? 76).map (fun i => (i.zero, i.size, i.bytes)) = some (some (.int .i8 0), 1, 1) := by kernel_rfl

set_option maxHeartbeats 2000000 in
theorem next_new (pa pm most steps : Nat) (pl : List ((Nat → Int) × Bool)) (hl : pl.length ≠ most) (F : Nat → Prop) (w : World) (h : IsA w F pa pm ⟨most, pl, [], steps⟩) :
    Calls Try.prog 55 #[.pointer (some ⟨pa, 0, none⟩)] w fun e w' => e = .returned (.tuple #[.int .i64 (pl.length : Int), .bool true]) ∧ PreA w' (Grow F w w') pa pm ⟨most, pl ++ [cl0], [], steps⟩ ∧ Kept F w w' := by
  obtain ⟨hv, tv, bv, hr, f1, f2, f3, f4, f5, f6, ok⟩ := h
  obtain ⟨hpa, h0, h1, h2, h3, h4⟩ := hr.cells
  have hfz2 : w.frozen? ⟨pa, 2, none⟩ = false := blk_free hr.blk
  have hfz3 : w.frozen? ⟨pa, 3, none⟩ = false := blk_free hr.blk
  obtain ⟨ha, hc, rfl⟩ := own_form hr.has
  obtain ⟨ta, tc, rfl⟩ := own_form hr.tak
  obtain ⟨ba, bc, rfl⟩ := own_form hr.back
  have hlen : pl.length ≤ 65536 := Nat.le_trans ok.fits ok.top
  have c' : ((pl.length : Int) == (most : Int)) = false := by rw [beq_eq_false_iff_ne]; omega
  obtain ⟨ti, hti, hz0, hz1, hz2⟩ := info_parts info56
  have HT := hid hti
  have Z0 := hid hz0
  have Z1 := hid hz1
  have Z2 := hid hz2
  have HR := hid hr
  have F1 := hid f1
  have F2 := hid f2
  have F3 := hid f3
  have F4 := hid f4
  have F5 := hid f5
  have F6 := hid f6
  clear hr h1 f1 f2 f3 f4 f5 f6 ok hl hti hz0 hz1 hz2
  simp only [] at h0 h2 h3 h4 hlen
  go_enter Try.func55, Try.ntmps55
  go_upto_region 10 with (at_builtin; refine wpList_append_lies _ rfl (.tmp 47) (.tmp 48) 65 rfl 0 76 ti _ 1 1 Try.underlying65 HT.out Z0.out Z1.out Z2.out rfl (by decide) (.slice ta pl.length tc) pl.length (row mk8 pl) rfl (World.ownsRow.alloc HR.out.tak _) ⟨w.heap.size, 0, none⟩ 1 1 (mk8 cl0) rfl rfl (World.news_of_block (heap_alloc_new w _)) (mk8_one _) (by decide) (by simp [maxLen]; omega) (by omega) (Nat.zero_le _) (w.heap.size + 1) (by simp) ?_; intro g1 cap1 w1 ho hgr hat hlt; have hpw : w1.heap[pa]? = w.heap[pa]? := (hgr.block pa (by simp; omega) (fun e => own_ne_block HR.out.tak HR.out.blk (by decide) e.symm)).trans (Below.heap_alloc _ _ _ hpa); have e3 : w1.cell? ⟨pa, 3, none⟩ = some (.slice ta pl.length tc) := (World.cell?_of_block hpw).trans h3; have e4 : w1.frozen? ⟨pa, 3, none⟩ = false := (World.frozen?_of_block hpw).trans hfz3; have e2 : w1.cell? ⟨pa, 2, none⟩ = some (.slice ha (pl.length * 10) hc) := (World.cell?_of_block hpw).trans h2; have e5 : w1.frozen? ⟨pa, 2, none⟩ = false := (World.frozen?_of_block hpw).trans hfz2; have hpa1 := lt_of_block (hpw.trans HR.out.blk); have W1 := hid hgr.size; have T := hid (HR.out.toG.pushT (x := cl0) F1.out F2.out F3.out F4.out F5.out F6.out ((Kept.refl _ _).alloc _) ho hgr (hat.imp id (fun e => by rw [e]; simp)) hlt); clear ho hgr hat hlt hpw h0 h2 h3 h4 hfz2 hfz3 hpa)
  obtain ⟨TG, TK, TF⟩ := T.out
  obtain ⟨g2, cap2, w3, hrun, ho2, hgr2, hat2, hlt2⟩ := append_ten (w1.setCell ⟨pa, 3, none⟩ (.slice (some ⟨g1, 0, none⟩) (pl.length + 1) cap1)) 22 _ _ _ TG.has (by show pl.length * 10 ≤ _; omega)
  have hpw : w3.heap[pa]? = (w1.setCell ⟨pa, 3, none⟩ (.slice (some ⟨g1, 0, none⟩) (pl.length + 1) cap1)).heap[pa]? := hgr2.block pa (by simp; omega) (fun e => own_ne_block TG.has TG.blk (by decide) e.symm)
  have e6 : w3.cell? ⟨pa, 2, none⟩ = some (.slice ha (pl.length * 10) hc) := (World.cell?_of_block hpw).trans (by simp [go_sem, e2])
  have e7 : w3.frozen? ⟨pa, 2, none⟩ = false := (World.frozen?_of_block hpw).trans (by simp [go_sem, e5])
  have hpa3 : pa < w3.heap.size := Nat.lt_of_lt_of_le hpa1 (Nat.le_trans (by simp) hgr2.size)
  have RUN := hid hrun
  have HO2 := hid ho2
  have HG2 := hid hgr2
  have HA2 := hid hat2
  have HL2 := hid hlt2
  have TG' := hid TG
  have TK' := hid TK
  have TF' := hid TF
  clear TG TK TF T hrun ho2 hgr2 hat2 hlt2 hpw e3 e4 e5
  go_wp2_with (at_builtin; refine Lib.wpList_append_run _ rfl _ _ _ _ rfl _ _ rfl rfl _ _ RUN.out ?_; clear e2)
  go_ret2
  have K2 : Kept F w (w1.setCell ⟨pa, 3, none⟩ (.slice (some ⟨g1, 0, none⟩) (pl.length + 1) cap1)) := TK'.out.setCell (p := ⟨pa, 3, none⟩) (Or.inl F1.out) _
  have f3' : ∀ k, (Value.slice ha (pl.length * 10) hc).ownBlock = some k → Grow F w (w1.setCell ⟨pa, 3, none⟩ (.slice (some ⟨g1, 0, none⟩) (pl.length + 1) cap1)) k := fun k hk => Or.inl (F3.out k hk)
  have f4' : ∀ k, (Value.slice (some ⟨g1, 0, none⟩) (pl.length + 1) cap1).ownBlock = some k → Grow F w (w1.setCell ⟨pa, 3, none⟩ (.slice (some ⟨g1, 0, none⟩) (pl.length + 1) cap1)) k := fun k hk => by
    cases hk
    exact TF'.out.imp id fun e => ⟨e.1, by simpa [World.setCell] using e.2⟩
  have f5' : ∀ k, (Value.slice ba 0 bc).ownBlock = some k → Grow F w (w1.setCell ⟨pa, 3, none⟩ (.slice (some ⟨g1, 0, none⟩) (pl.length + 1) cap1)) k := fun k hk => Or.inl (F5.out k hk)
  have P := TG'.out.pushH (x := cl0) (F := Grow F w (w1.setCell ⟨pa, 3, none⟩ (.slice (some ⟨g1, 0, none⟩) (pl.length + 1) cap1))) (Or.inl F1.out) (Or.inl F2.out) f3' f4' f5' (Grow.lt F6.out K2.size) (Kept.refl _ _) HO2.out HG2.out HA2.out HL2.out
  have K3 : Kept F w w3 := K2.trans P.2.1
  have K4 := K3.setCell (p := ⟨pa, 2, none⟩) (Or.inl F1.out) (.slice (some ⟨g2, 0, none⟩) (pl.length * 10 + 10) cap2)
  have up : ∀ k, Grow F w (w1.setCell ⟨pa, 3, none⟩ (.slice (some ⟨g1, 0, none⟩) (pl.length + 1) cap1)) k → Grow F w (w3.setCell ⟨pa, 2, none⟩ (.slice (some ⟨g2, 0, none⟩) (pl.length * 10 + 10) cap2)) k := fun k hk => hk.imp id fun e => ⟨e.1, by have := e.2; have q := P.2.1.size; simp [World.setCell] at this q ⊢; omega⟩
  refine ⟨rfl, ⟨_, _, _, P.1.toA, Or.inl F1.out, Or.inl F2.out, fun k hk => ?_, fun k hk => up k (f4' k hk), fun k hk => up k (f5' k hk), Grow.lt F6.out K4.size⟩, K4⟩
  cases hk
  rcases P.2.2 with e | e
  · exact up _ e
  · exact Or.inr ⟨Nat.le_trans K2.size e.1, by simpa [World.setCell] using e.2⟩

theorem takeS_back {most steps a : Nat} {pl : List ((Nat → Int) × Bool)} {bk : List Nat} : takeS ⟨most, pl, bk ++ [a], steps⟩ = ⟨most, pl.set a (fr, true), bk, steps + 1⟩ := by simp [takeS]
theorem takeS_full {most steps : Nat} {pl : List ((Nat → Int) × Bool)} (h : pl.length = most) : takeS ⟨most, pl, [], steps⟩ = ⟨most, pl, [], steps + 1⟩ := by simp [takeS, h, tick]
theorem takeS_new {most steps : Nat} {pl : List ((Nat → Int) × Bool)} (h : pl.length ≠ most) : takeS ⟨most, pl, [], steps⟩ = ⟨most, pl ++ [(fr, true)], [], steps + 1⟩ := by simp [takeS, h]
theorem nextS_back {most steps a : Nat} {pl : List ((Nat → Int) × Bool)} {bk : List Nat} : nextS ⟨most, pl, bk ++ [a], steps⟩ = a := by simp [nextS]
theorem nextS_full {most steps : Nat} {pl : List ((Nat → Int) × Bool)} (h : pl.length = most) : nextS ⟨most, pl, [], steps⟩ = -1 := by simp [nextS, h]
theorem nextS_new {most steps : Nat} {pl : List ((Nat → Int) × Bool)} (h : pl.length ≠ most) : nextS ⟨most, pl, [], steps⟩ = pl.length := by simp [nextS, h]

/-- behind next: the mark, the numbers -/
theorem take_rest (pa pm : Nat) (s : St) (c : Nat) (x : ((Nat → Int) × Bool)) (hx : s.pl[c]? = some x) (hlen : s.pl.length ≤ 65537) (F : Nat → Prop) (w : World) (h : PreA w F pa pm s) :
    ∃ g n cap, pa < w.heap.size ∧ w.cell? ⟨pa, 3, none⟩ = some (.slice (some ⟨g, 0, none⟩) n cap) ∧ n = s.pl.length ∧ g < w.heap.size ∧ w.frozen? ⟨g, c, none⟩ = false ∧ (∃ m, w.cell? ⟨g, c, none⟩ = some (.int .i8 m)) ∧ pa ≠ g ∧
      Calls Try.prog 56 #[.pointer (some ⟨pa, 0, none⟩), .int .i64 c] (w.setCell ⟨g, c, none⟩ (.int .i8 1)) fun e w' => e = .returned (.tuple #[]) ∧ PreA w' F pa pm ⟨s.most, s.pl.set c (fr, true), s.back, s.steps⟩ ∧ Kept F w w' := by
  obtain ⟨hv, tv, bv, hr, f1, f2, f3, f4, f5, f6⟩ := h
  obtain ⟨hpa, h0, h1, h2, h3, h4⟩ := hr.cells
  obtain ⟨g, cap, rfl, hg, hfz, hcell⟩ := hr.mark hx
  have hgp : pa ≠ g := fun e => own_ne_block hr.tak hr.blk (by decide) (by rw [e]; rfl)
  refine ⟨g, _, cap, hpa, h3, rfl, hg, hfz c, ⟨_, hcell⟩, hgp, ?_⟩
  have hR := hr.marked hx true (m := 1) rfl
  have hcl : c < s.pl.length := (List.getElem?_eq_some_iff.1 hx).1
  have K1 : Kept F w (w.setCell ⟨g, c, none⟩ (.int .i8 1)) := (Kept.refl F w).setCell (p := ⟨g, c, none⟩) (Or.inl (f4 g rfl)) _
  refine (wipeA pa pm _ _ _ _ F c (x.1, true) (by simp [hcl]) (by simpa using hlen) _ hR f3).mono ?_
  rintro e w' ⟨rfl, h5, h6⟩
  simp only [List.set_set] at h5
  exact ⟨rfl, ⟨_, _, _, h5, f1, f2, f3, f4, f5, fun k hk => Nat.lt_of_lt_of_le (f6 k hk) (K1.trans' h6).size⟩, K1.trans' h6⟩

set_option maxHeartbeats 2000000 in
theorem takeA (pa pm : Nat) (s : St) (F : Nat → Prop) (w : World) (h : IsA w F pa pm s) (hs : s.steps ≤ 100000000) :
    Calls Try.prog 40 #[.pointer (some ⟨pa, 0, none⟩)] w fun e w' => e = .returned (.tuple #[.int .i64 (nextS s), .bool (decide (0 ≤ nextS s))]) ∧ IsA w' (Grow F w w') pa pm (takeS s) ∧ Kept F w w' := by
  have OK := hid h.ok.take
  have hlen : s.pl.length ≤ 65536 := Nat.le_trans h.ok.fits h.ok.top
  have FR := hid h.ok.free
  have FL := hid h.lt
  have S := hid (stepA pa pm s F w h hs)
  obtain ⟨most, pl, back, steps⟩ := s
  rw [show tick ⟨most, pl, back, steps⟩ = ⟨most, pl, back, steps + 1⟩ from rfl] at S
  simp only [] at hlen
  clear h hs
  rcases snoc_or back with rfl | ⟨bk, a, rfl⟩
  · by_cases c : pl.length = most
    · rw [nextS_full c, takeS_full c] at *
      go_enter Try.func40, Try.ntmps40
      go_wp2_with fail
      refine S.out.mono ?_
      rintro e w1 ⟨rfl, h1, k1⟩
      have H1 := hid h1
      have K1 := hid k1
      have N := hid (next_full pa pm most (steps + 1) pl c F w1 h1)
      clear h1 k1 S c
      go_wp2_with fail
      refine N.out.mono ?_
      rintro e w2 ⟨rfl, n, rfl⟩
      go_wp2
      go_ret2
      exact ⟨rfl, (H1.out.drewN n).widen (fun _ e => Or.inl e) (Grow.lt FL.out (K1.out.drewN n).size), K1.out.drewN n⟩
    · rw [nextS_new c, takeS_new c] at *
      go_enter Try.func40, Try.ntmps40
      go_wp2_with fail
      refine S.out.mono ?_
      rintro e w1 ⟨rfl, h1, k1⟩
      have H1 := hid h1
      have K1 := hid k1
      have N := hid (next_new pa pm most (steps + 1) pl c F w1 h1)
      clear h1 k1 S c
      go_wp2_with fail
      refine N.out.mono ?_
      rintro e w2 ⟨rfl, h2, k2⟩
      obtain ⟨g, n, cap, hpa, h3, hn, hg, hfz, ⟨m, hm⟩, hpg, W⟩ := take_rest pa pm _ pl.length cl0 (by simp) (by simp; omega) _ w2 h2
      have HW := hid W
      have K2 := hid k2
      have hn1 : (pl.length : Int) < (n : Int) := by simp at hn; omega
      clear h2 k2 W N hn
      go_wp2_with fail
      refine HW.out.mono ?_
      rintro e w3 ⟨rfl, h4, k4⟩
      have H4 := hid h4
      have K4 := hid k4
      clear h4 k4 HW
      go_wp2
      go_ret2
      have e1 : (pl ++ [cl0]).set pl.length (fr, true) = pl ++ [(fr, true)] := by simp
      have hP := H4.out
      simp only [e1] at hP
      have K23 : Kept F w1 w3 := K2.out.trans K4.out
      have up : ∀ k, Grow F w1 w2 k → Grow F w w3 k := fun k hk => hk.imp id fun e => ⟨Nat.le_trans K1.out.size e.1, Nat.lt_of_lt_of_le e.2 K4.out.size⟩
      have KK := K1.out.trans' K23
      exact ⟨ret_ib rfl (by simp), (hP.toA OK.out).widen up (Grow.lt FL.out KK.size), KK⟩
  · rw [nextS_back, takeS_back] at *
    obtain ⟨y, hy⟩ := FR.out a (by simp)
    go_enter Try.func40, Try.ntmps40
    go_wp2_with fail
    refine S.out.mono ?_
    rintro e w1 ⟨rfl, h1, k1⟩
    have K1 := hid k1
    have N := hid (next_back pa pm most (steps + 1) pl bk a F w1 h1)
    clear h1 k1 S
    go_wp2_with fail
    refine N.out.mono ?_
    rintro e w2 ⟨rfl, h2, k2⟩
    obtain ⟨g, n, cap, hpa, h3, hn, hg, hfz, ⟨m, hm⟩, hpg, W⟩ := take_rest pa pm _ a _ hy (by simp; omega) _ w2 h2
    have HW := hid W
    have K2 := hid k2
    have hal : a < pl.length := (List.getElem?_eq_some_iff.1 hy).1
    have hn1 : (a : Int) < (n : Int) := by simp at hn; omega
    have hn2 : n ≤ 65536 := by simp at hn; omega
    clear h2 k2 W N hn hy
    go_wp2_with fail
    refine HW.out.mono ?_
    rintro e w3 ⟨rfl, h4, k4⟩
    have H4 := hid h4
    have K4 := hid k4
    clear h4 k4 HW
    go_wp2
    go_ret2
    have KK := K1.out.trans' (K2.out.trans' K4.out)
    exact ⟨ret_ib rfl (by simp), (H4.out.toA OK.out).widen (fun _ e => Or.inl e) (Grow.lt FL.out KK.size), KK⟩
end Go.Proofs.Ythfdooigljkfiaa

/- The arena, as a call's own: what stays true from step to step. -/
namespace Go.Proofs.Ythfdooigljkfiaa
open Go.ChangeShapes Go.WideShapes Go.ChangeAt Go.RowKit

/-- since w0 nothing old has turned, and the arena lies in what is new -/
structure HoldA (w0 w : World) (F : Nat → Prop) (pa pm : Nat) (s : St) : Prop where
  is : IsA w F pa pm s
  new : ∀ k, F k → w0.heap.size ≤ k
  bel : Below w0.heap.size w0 w

section
variable {w0 w w' : World} {F G : Nat → Prop} {pa pm : Nat} {s s' : St}
theorem HoldA.call (h : HoldA w0 w F pa pm s) (hi : IsA w' (Grow F w w') pa pm s') (hk : Kept F w w') : HoldA w0 w' (Grow F w w') pa pm s' :=
  ⟨hi, fun k e => e.elim (h.new k) fun e => Nat.le_trans h.bel.size e.1, h.bel.trans (hk.below h.bel.size h.new)⟩
theorem HoldA.stay (h : HoldA w0 w F pa pm s) (hi : IsA w' F pa pm s') (hk : Kept F w w') : HoldA w0 w' F pa pm s' :=
  ⟨hi, h.new, h.bel.trans (hk.below h.bel.size h.new)⟩
theorem HoldA.plain (h : HoldA w0 w F pa pm s) (hk : Kept (fun _ => False) w w') : HoldA w0 w' F pa pm s :=
  ⟨h.is.kept hk (fun _ _ e => e), h.new, h.bel.trans (hk.below h.bel.size fun _ e => e.elim)⟩
theorem HoldA.other (h : HoldA w0 w F pa pm s) (hk : Kept G w w') (hG : ∀ k, G k → w0.heap.size ≤ k) (hd : ∀ k, F k → ¬ G k) : HoldA w0 w' F pa pm s :=
  ⟨h.is.kept hk hd, h.new, h.bel.trans (hk.below h.bel.size hG)⟩
theorem HoldA.drewN (h : HoldA w0 w F pa pm s) (n : Nat) : HoldA w0 (w.drewN n) F pa pm s := h.plain ((Kept.refl _ _).drewN n)

theorem newAH (n : Int) (w : World) : Calls Try.prog 16 #[.int .i64 n] w fun e w' => ∃ F pa pm, e = .returned (.pointer (some ⟨pa, 0, none⟩)) ∧ HoldA w w' F pa pm (st0 n) :=
  (newA n w).mono fun _ _ ⟨F, pa, pm, h1, h2, h3, h4⟩ => ⟨F, pa, pm, h1, h2, h3, h4⟩
theorem takeAH (h : HoldA w0 w F pa pm s) (hs : s.steps ≤ 100000000) : Calls Try.prog 40 #[.pointer (some ⟨pa, 0, none⟩)] w fun e w' => e = .returned (.tuple #[.int .i64 (nextS s), .bool (decide (0 ≤ nextS s))]) ∧ HoldA w0 w' (Grow F w w') pa pm (takeS s) ∧ Kept F w w' :=
  (takeA pa pm s F w h.is hs).mono fun _ _ ⟨h1, h2, h3⟩ => ⟨h1, h.call h2 h3, h3⟩
theorem giveAH (c : Int) (h : HoldA w0 w F pa pm s) (hs : s.steps ≤ 100000000) : Calls Try.prog 23 #[.pointer (some ⟨pa, 0, none⟩), .int .i64 c] w fun e w' => e = .returned (.bool (liveS s c)) ∧ HoldA w0 w' (Grow F w w') pa pm (giveS s c) ∧ Kept F w w' :=
  (giveA pa pm s F c w h.is hs).mono fun _ _ ⟨h1, h2, h3⟩ => ⟨h1, h.call h2 h3, h3⟩
theorem getAH (c f : Int) (h : HoldA w0 w F pa pm s) (hs : s.steps ≤ 100000000) : Calls Try.prog 30 #[.pointer (some ⟨pa, 0, none⟩), .int .i64 c, .int .i64 f] w fun e w' => e = .returned (.int .i64 (getS s c f)) ∧ HoldA w0 w' F pa pm (tick s) ∧ Kept F w w' :=
  (getA pa pm s F c f w h.is hs).mono fun _ _ ⟨h1, h2, h3⟩ => ⟨h1, h.stay h2 h3, h3⟩
theorem cellAH (c f : Int) (h : HoldA w0 w F pa pm s) (hs : s.steps ≤ 100000000) : Calls Try.prog 28 #[.pointer (some ⟨pa, 0, none⟩), .int .i64 c, .int .i64 f] w fun e w' => e = .returned (.int .i64 (cellS s c f)) ∧ HoldA w0 w' F pa pm (tick s) ∧ Kept F w w' :=
  (cellA pa pm s F c f w h.is hs).mono fun _ _ ⟨h1, h2, h3⟩ => ⟨h1, h.stay h2 h3, h3⟩
theorem setAH (c f v : Int) (h : HoldA w0 w F pa pm s) (hs : s.steps ≤ 100000000) : Calls Try.prog 41 #[.pointer (some ⟨pa, 0, none⟩), .int .i64 c, .int .i64 f, .int .i64 v] w fun e w' => e = .returned (.bool (mayS s c f)) ∧ HoldA w0 w' F pa pm (setS s c f v) ∧ Kept F w w' :=
  (setA pa pm s F c f v w h.is hs).mono fun _ _ ⟨h1, h2, h3⟩ => ⟨h1, h.stay h2 h3, h3⟩
end

def I64 (x : Int) : Prop := -9223372036854775808 ≤ x ∧ x ≤ 9223372036854775807
theorem i64_of_wf {x : Int} (h : (Lit.int .i64 x).wf = true) : I64 x := by
  simp [Lit.wf, IntKind.min, IntKind.max, IntKind.signed, IntKind.bits] at h
  exact ⟨by omega, by omega⟩

theorem tmod_bounds (n : Int) {k : Int} (hk : 0 < k) : -k < n.tmod k ∧ n.tmod k < k := by
  constructor
  · have h2 := Int.lt_tmod_of_pos n hk; omega
  · exact Int.tmod_lt_of_pos n hk

set_option maxHeartbeats 1000000 in
theorem within_any (n : Int) (hn : I64 n) (lo hi : Int) (hl0 : -1000 ≤ lo) (hlh : lo ≤ hi) (hh : hi ≤ 1000) (w : World) :
    Calls Try.prog 24 #[.int .i64 n, .int .i64 lo, .int .i64 hi] w fun e w' => ∃ r : Int, e = .returned (.int .i64 r) ∧ lo ≤ r ∧ r ≤ hi ∧ w' = w := by
  obtain ⟨h1, h2⟩ := hn
  by_cases c1 : lo ≤ n
  · by_cases c2 : n ≤ hi
    · go_enter Try.func24, Try.ntmps24
      go_wp2
      go_ret
      exact ⟨n, rfl, by omega, by omega, rfl⟩
    · obtain ⟨d, hd⟩ : ∃ d : Nat, hi - lo = d := ⟨(hi - lo).toNat, by omega⟩
      have hwd : IntKind.i64.wrap ((d : Int) + 1) = (d : Int) + 1 := IntWalk.i64_in _ (by omega)
      have hne : ¬ ((d : Int) + 1 = 0) := by omega
      obtain ⟨t1, t2⟩ := tmod_bounds n (k := (d : Int) + 1) (by omega)
      have HD := hid hd
      have c2' : decide (n ≤ hi) = false := by simp; omega
      obtain ⟨t, ht⟩ : ∃ t : Int, n.tmod ((d : Int) + 1) = t := ⟨_, rfl⟩
      rw [ht] at t1 t2
      by_cases c3 : t < 0
      · go_enter Try.func24, Try.ntmps24
        go_wp2
        go_ret
        exact ⟨_, rfl, by omega, by omega, rfl⟩
      · have c3' : decide (t < 0) = false := by simp; omega
        go_enter Try.func24, Try.ntmps24
        go_wp2
        go_ret
        exact ⟨_, rfl, by omega, by omega, rfl⟩
  · obtain ⟨d, hd⟩ : ∃ d : Nat, hi - lo = d := ⟨(hi - lo).toNat, by omega⟩
    have hwd : IntKind.i64.wrap ((d : Int) + 1) = (d : Int) + 1 := IntWalk.i64_in _ (by omega)
    have hne : ¬ ((d : Int) + 1 = 0) := by omega
    obtain ⟨t1, t2⟩ := tmod_bounds n (k := (d : Int) + 1) (by omega)
    have c1' : decide (lo ≤ n) = false := by simp; omega
    obtain ⟨t, ht⟩ : ∃ t : Int, n.tmod ((d : Int) + 1) = t := ⟨_, rfl⟩
    rw [ht] at t1 t2
    by_cases c3 : t < 0
    · go_enter Try.func24, Try.ntmps24
      go_wp2
      go_ret
      exact ⟨_, rfl, by omega, by omega, rfl⟩
    · have c3' : decide (t < 0) = false := by simp; omega
      go_enter Try.func24, Try.ntmps24
      go_wp2
      go_ret
      exact ⟨_, rfl, by omega, by omega, rfl⟩

end Go.Proofs.Ythfdooigljkfiaa
