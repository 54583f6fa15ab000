/- How a slice that came in is opened: numbers, answers, rows of numbers, asks, in a row in memory. -/
import Derived.Test.YthfdooigljkfiaaGreatGa
import Derived.ChangeOld
import Derived.Carry
import Derived.Deep.Slices
import Derived.Deep.Strs
import Derived.Lib.SmallJoins
namespace Go.Proofs.YthfdooigljkfiaaGreat
open Go.ChangeShapes Go.WideShapes Go.ChangeAt Go.RowKit

theorem own' : ownKnob Tryz.prog.godebug = none := by kernel_rfl
theorem laidOut' : laidOutB Tryz.prog = true := by kernel_rfl
theorem cells2 : Tryz.prog.cellsOf 2 = 1 := by kernel_rfl
theorem cells3 : Tryz.prog.cellsOf 3 = 1 := by kernel_rfl
def oneI (x : Int) : List Value := [(.int .i64 x)]
theorem oneI_len : ∀ x, (oneI x).length = 1 := fun _ => rfl
def oneB (x : Bool) : List Value := [(.bool x)]

/-- a call that is asked for -/
structure Ask where
  kind : Int
  h : Int
  i : Int
  key : Int
def ask4 (q : Ask) : List Value := [.int .i64 q.kind, .int .i64 q.h, .int .i64 q.i, .int .i64 q.key]
def askI (q : Ask) : Prop := I64 q.kind ∧ I64 q.h ∧ I64 q.i ∧ I64 q.key

/-- the cells of a slice that came in -/
def Came {α : Type} (w : World) (a : Option Addr) (c : Nat) (f : α → List Value) (l : List α) : Prop :=
  l = [] ∨ ∃ b off, a = some ⟨b, off, none⟩ ∧ b < w.heap.size ∧ ∀ i x, l[i]? = some x → ∀ j, j < c → w.cell? ⟨b, off + (i * c + j), none⟩ = (f x)[j]?
theorem Came.get {α : Type} {w w' : World} {a : Option Addr} {c : Nat} {f : α → List Value} {l : List α} (h : Came w a c f l) (k : Below w.heap.size w w') {i : Nat} {x : α} (hx : l[i]? = some x) :
    ∃ b off, a = some ⟨b, off, none⟩ ∧ b < w.heap.size ∧ ∀ j, j < c → w'.cell? ⟨b, off + (i * c + j), none⟩ = (f x)[j]? := by
  rcases h with rfl | ⟨b, off, e, hb, hc⟩
  · simp at hx
  · exact ⟨b, off, e, hb, fun j hj => (k.cell (p := ⟨b, _, none⟩) hb).trans (hc i x hx j hj)⟩
theorem Came.below {α : Type} {w w' : World} {a : Option Addr} {c : Nat} {f : α → List Value} {l : List α} (h : Came w a c f l) (k : Below w.heap.size w w') : Came w' a c f l := by
  rcases h with rfl | ⟨b, off, e, hb, hc⟩
  · exact Or.inl rfl
  · exact Or.inr ⟨b, off, e, Nat.lt_of_lt_of_le hb k.size, fun i x hx j hj => (k.cell (p := ⟨b, _, none⟩) hb).trans (hc i x hx j hj)⟩

theorem cell_lt {w : World} {a : Addr} {v : Value} (h : w.cell? a = some v) : a.block < w.heap.size := by
  by_cases c : a.block < w.heap.size
  · exact c
  · simp [World.cell?, show w.heap[a.block]? = none by simp; omega] at h

section
variable {H : Type} {enc : TypeId × Value → H} {P : Program} {w : World} {base : Nat} {spare : Nat → Bool} {held : Bool}

theorem int_cells' {t : TypeId} (ht : P.underlying t = some (.int .i64)) {fuel : Nat} {cs : List Value} {x : DataW H × List MemPlace} (h : DataW.trod enc P w base spare held fuel t cs = some x) : ∃ q : Int, cs = oneI q ∧ I64 q := by
  obtain ⟨a, e0, _, wf⟩ := DataW.trod_int ht h
  exact ⟨a, e0, i64_of_wf wf⟩
theorem bool_cells' {t : TypeId} (ht : P.underlying t = some .bool) {fuel : Nat} {cs : List Value} {x : DataW H × List MemPlace} (h : DataW.trod enc P w base spare held fuel t cs = some x) : ∃ q : Bool, cs = oneB q ∧ True := by
  obtain ⟨a, e0, _⟩ := DataW.trod_bool ht h
  exact ⟨a, e0, trivial⟩
/-- a slice that came in, by its cells -/
theorem open_cells {α : Type} (d0 : α) {t e : TypeId} {c : Nat} {f : α → List Value} {G : α → Prop} (ht : P.underlying t = some (.slice e)) (hc : P.cellsOf e = c) (hc0 : 0 < c) (hf : ∀ q, (f q).length = c)
    (he : ∀ {fuel : Nat} {cs : List Value} {x : DataW H × List MemPlace}, DataW.trod enc P w base spare held fuel e cs = some x → ∃ q : α, cs = f q ∧ G q)
    {fuel : Nat} {cs : List Value} {x : DataW H × List MemPlace} (hfu : DataW.trod enc P w base spare held fuel t cs = some x) :
    ∃ (a : Option Addr) (cap : Nat) (l : List α), cs = [.slice a l.length cap] ∧ l.length ≤ maxLen ∧ Came w a c f l ∧ ∀ x ∈ l, G x := by
  rcases Deep.open_slice ht hfu with ⟨hcs, _⟩ | ⟨a, len, cap, m, n, D, Pl, hcs, _, hl, hm, hmm, _, hel⟩
  · exact ⟨none, 0, [], hcs, Nat.zero_le _, Or.inl rfl, fun x hx => (by cases hx)⟩
  · have hlm : len ≤ m := by rw [hmm]; split <;> omega
    have hE : ∀ i, i < len → ∃ q : α, (∀ j, j < c → w.cell? (a.add (i * c + j)) = (f q)[j]?) ∧ G q := fun i hi => by
      obtain ⟨cs', h1, h2⟩ := hel i (by omega)
      obtain ⟨q, rfl, hq⟩ := he h2
      rw [hc] at h1
      obtain ⟨_, _, h3⟩ := World.cells?_some h1
      refine ⟨q, fun j hj => ?_, hq⟩
      have k0 := h3 j hj
      rwa [Deep.add_add] at k0
    haveI : Inhabited α := ⟨d0⟩
    obtain ⟨fn, hfn⟩ := Deep.choose_lt hE
    refine ⟨some a, cap, (List.range len).map fn, by simpa using hcs, by simp; omega, ?_, fun x hx => ?_⟩
    · by_cases h0 : len = 0
      · exact Or.inl (by simp [h0])
      · obtain ⟨b, off, spot⟩ := a
        have hcl := (hfn 0 (by omega)).1 0 hc0
        have hfl : 0 < (f (fn 0)).length := by rw [hf]; exact hc0
        rw [List.getElem?_eq_getElem hfl] at hcl
        have hspot : spot = none := by simpa [Addr.add] using World.cell?_spot hcl
        subst hspot
        refine Or.inr ⟨b, off, rfl, ?_, fun i x hx j hj => ?_⟩
        · have := cell_lt hcl
          simpa [Addr.add] using this
        · have hi : i < len := by
            have := (List.getElem?_eq_some_iff.1 hx).1
            simpa using this
          have e' : x = fn i := by simpa [hi] using hx.symm
          subst e'
          have := (hfn i hi).1 j hj
          rwa [show (⟨b, off, none⟩ : Addr).add (i * c + j) = ⟨b, off + (i * c + j), none⟩ by unfold Addr.add; split <;> simp_all] at this
    · simp only [List.mem_map, List.mem_range] at hx
      obtain ⟨i, hi, rfl⟩ := hx
      exact (hfn i hi).2
/-- a slice that came in -/
theorem open_came {α : Type} (d0 : α) {t e : TypeId} {c : Nat} {f : α → List Value} {G : α → Prop} (ht : P.underlying t = some (.slice e)) (hc : P.cellsOf e = c) (hc0 : 0 < c) (hf : ∀ q, (f q).length = c)
    (he : ∀ {fuel : Nat} {cs : List Value} {x : DataW H × List MemPlace}, DataW.trod enc P w base spare held fuel e cs = some x → ∃ q : α, cs = f q ∧ G q)
    {r : Reach} {b0 : Nat} {v : Value} {d : DataW H} {p : List MemPlace} (hv : Value.okWide P w r b0 t v) (h : DataW.Trod enc P w base spare held t v d p) :
    ∃ (a : Option Addr) (cap : Nat) (l : List α), v = .slice a l.length cap ∧ l.length ≤ maxLen ∧ Came w a c f l ∧ ∀ x ∈ l, G x := by
  obtain ⟨a0, len, cap, rfl⟩ := okWide_slice ht hv
  obtain ⟨fuel, hfu⟩ := h
  obtain ⟨a, cap', l, e1, e2⟩ := open_cells d0 ht hc hc0 hf he hfu
  exact ⟨a, cap', l, by simpa [Value.cells] using e1, e2⟩
/-- a row of numbers that came in -/
structure Rw where
  a : Option Addr
  cap : Nat
  l : List Int
def rw1 (q : Rw) : List Value := [.slice q.a q.l.length q.cap]
def rwG (w : World) (q : Rw) : Prop := q.l.length ≤ maxLen ∧ Came w q.a 1 oneI q.l ∧ ∀ x ∈ q.l, I64 x
theorem row_cells {t e : TypeId} (ht : P.underlying t = some (.slice e)) (he : P.underlying e = some (.int .i64)) (hc : P.cellsOf e = 1) {fuel : Nat} {cs : List Value} {x : DataW H × List MemPlace} (h : DataW.trod enc P w base spare held fuel t cs = some x) : ∃ q : Rw, cs = rw1 q ∧ rwG w q := by
  obtain ⟨a, cap, l, e1, e2⟩ := open_cells (0 : Int) (f := oneI) (G := I64) ht hc (by decide) oneI_len (int_cells' he) h
  exact ⟨⟨a, cap, l⟩, e1, e2⟩
end
end Go.Proofs.YthfdooigljkfiaaGreat
