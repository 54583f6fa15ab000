/- Rows of entries in memory: what make, copy and append lay; slices that are read. -/
import Derived.Test.YtjjahhiaelaocaaStb
import Derived.OwnWalk
import Derived.Laws.CopyRow
namespace Go.Proofs.Ytjjahhiaelaocaa
open Go.ChangeShapes Go.WideShapes Go.ChangeAt Go.RowKit

/-- the cells of a list of entries -/
def flat : List (Int × Int) → List Value
  | [] => []
  | x :: r => .int .i64 x.1 :: .int .i64 x.2 :: flat r

theorem flat_length : ∀ l : List (Int × Int), (flat l).length = l.length * 2
  | [] => rfl
  | _ :: r => by simp only [flat, List.length_cons, flat_length r]; omega
theorem flat_append : ∀ l m : List (Int × Int), flat (l ++ m) = flat l ++ flat m
  | [], _ => rfl
  | _ :: r, m => by simp only [List.cons_append, flat, flat_append r m]
theorem flat_get : ∀ (l : List (Int × Int)) (i : Nat), i < l.length → (flat l)[i * 2]? = some (.int .i64 (ent l i).1) ∧ (flat l)[i * 2 + 1]? = some (.int .i64 (ent l i).2)
  | [], i, h => by simp at h
  | x :: r, 0, _ => by simp [flat, ent]
  | x :: r, i + 1, h => by
    have := flat_get r i (by simpa using h)
    have e1 : (i + 1) * 2 = i * 2 + 1 + 1 := by omega
    rw [e1]
    simp only [flat, List.getElem?_cons_succ]
    exact ⟨this.1, this.2⟩
theorem flat_one : ∀ (l : List (Int × Int)), ∀ v ∈ flat l, v.oneCell' = true
  | [], v, h => by simp [flat] at h
  | x :: r, v, h => by
    simp only [flat, List.mem_cons] at h
    rcases h with rfl | rfl | h
    · rfl
    · rfl
    · exact flat_one r v h
/-- each cell of the list is one of an entry's -/
theorem flat_at (l : List (Int × Int)) (j : Nat) (v : Value) (h : (flat l)[j]? = some v) : j / 2 < l.length ∧ (v = .int .i64 (ent l (j / 2)).1 ∧ j = j / 2 * 2 ∨ v = .int .i64 (ent l (j / 2)).2 ∧ j = j / 2 * 2 + 1) := by
  have hj : j < (flat l).length := by
    by_cases c : j < (flat l).length
    · exact c
    · rw [List.getElem?_eq_none (by omega)] at h; cases h
  rw [flat_length] at hj
  have k := flat_get l (j / 2) (by omega)
  refine ⟨by omega, ?_⟩
  rcases Nat.mod_two_eq_zero_or_one j with e | e
  · have e' : j / 2 * 2 = j := by omega
    rw [e'] at k ⊢
    rw [h] at k
    exact Or.inl ⟨by have := k.1; injection this, rfl⟩
  · have e' : j / 2 * 2 + 1 = j := by omega
    rw [e'] at k ⊢
    rw [h] at k
    exact Or.inr ⟨by have := k.2; injection this, by omega⟩

/-- an address that leads to the entries of l (no matter which if there are none) -/
def Ents (w : World) (a : Option Addr) (l : List (Int × Int)) : Prop := l = [] ∨ ∃ b off, a = some ⟨b, off, none⟩ ∧ b < w.heap.size ∧ Row w b off l

theorem Ents.below {w w' : World} {a : Option Addr} {l : List (Int × Int)} (h : Ents w a l) {B : Nat} (hB : w.heap.size ≤ B) (k : Below B w w') : Ents w' a l := by
  rcases h with h | ⟨b, off, e, hb, hr⟩
  · exact Or.inl h
  · exact Or.inr ⟨b, off, e, Nat.lt_of_lt_of_le hb k.size, hr.below (by omega) k⟩

theorem Row.src {w : World} {b off : Nat} {l : List (Int × Int)} (h : Row w b off l) (j : Nat) (v : Value) (hv : (flat l)[j]? = some v) : w.cell? ((⟨b, off, none⟩ : Addr).add j) = some v := by
  obtain ⟨h1, h2⟩ := flat_at l j v hv
  obtain ⟨c1, c2⟩ := h (j / 2) h1
  have ea : (⟨b, off, none⟩ : Addr).add j = ⟨b, off + j, none⟩ := by simp [Addr.add]
  rw [ea]
  rcases h2 with ⟨rfl, e⟩ | ⟨rfl, e⟩
  · rw [show off + j = off + j / 2 * 2 by omega]; exact c1
  · rw [show off + j = off + j / 2 * 2 + 1 by omega]; exact c2

/-- a block that holds the entries' cells from its head on -/
theorem own_of_block {w : World} {g : Nat} {cur : Array Value} {e : TypeId} {l : List (Int × Int)} (hg : w.heap[g]? = some (.cells cur e (0, 0))) (hc : cur.toList.take (l.length * 2) = flat l) : Own w g 0 l := by
  have hlt : g < w.heap.size := (Array.getElem?_eq_some_iff.1 hg).1
  have hcell : ∀ o v, (flat l)[o]? = some v → w.cell? ⟨g, o, none⟩ = some v := fun o v h => by
    rw [← hc, List.getElem?_take] at h
    split at h
    · simp only [World.cell?, hg]
      simpa using h
    · cases h
  refine ⟨hlt, fun i hi => ?_, fun o => ?_⟩
  · obtain ⟨h1, h2⟩ := flat_get l i hi
    rw [Nat.zero_add]
    exact ⟨hcell _ _ h1, hcell _ _ h2⟩
  · simp [World.frozen?, hg]

/-- copy, of elements of two cells, into a row that is known whole -/
theorem run_copy_two {P : Program} (w : World) (dT sT ty elem : TypeId) (g o dLen dCap : Nat) (a : Addr) (sLen sCap n : Nat) (cur : Array Value) (t : TypeId) (cs : List Value)
    (hu : P.underlying dT = some (.slice elem)) (hs : (P.info? elem).map (·.size) = some 2)
    (hg : w.heap[g]? = some (.cells cur t (0, 0))) (hn : n = Nat.min sLen dLen) (hl : cs.length = n * 2)
    (hsrc : ∀ j v, cs[j]? = some v → w.cell? (a.add j) = some v) (hfit : o + cs.length ≤ cur.size) (h1 : ∀ v ∈ cs, v.oneCell' = true) :
    (Builtin.copy_ #[dT, sT] ty #[.slice (some ⟨g, o, none⟩) dLen dCap, .slice (some a) sLen sCap]).run P w =
      .ok (goInt n) (w.setRow g (cur.toList.take o ++ cs ++ cur.toList.drop (o + cs.length)).toArray) := by
  have hl' := run_loadCells_list (P := P) w a cs hsrc
  have hst := run_storeCells_at (P := P) g o t cs 0 cur w hg (by simpa using hfit) h1
  cases hq : P.info? elem with
  | none => simp [hq] at hs
  | some i =>
    have hi : i.size = 2 := by simpa [hq] using hs
    rw [hl] at hl'
    simp [Builtin.copy_, run_underlying hu, Builtin.lenOf, Builtin.firstCells, sizeOf, typeInfo, hq, hi, ← hn, hl', hst]
/-- nothing goes over where one of the two has no element -/
theorem run_copy_two_none {P : Program} (w : World) (dT sT ty elem : TypeId) (d a : Option Addr) (dLen dCap sLen sCap : Nat) (hu : P.underlying dT = some (.slice elem)) (hs : (P.info? elem).map (·.size) = some 2) (hn : Nat.min sLen dLen = 0) :
    (Builtin.copy_ #[dT, sT] ty #[.slice d dLen dCap, .slice a sLen sCap]).run P w = .ok (goInt 0) w := by
  cases hq : P.info? elem with
  | none => simp [hq] at hs
  | some i =>
    have hl : ∀ (x : Addr), (loadCells x 0).run P w = .ok #[] w := fun x => by simpa using run_loadCells_list (P := P) w x [] (by simp)
    cases d <;> cases a <;> simp [Builtin.copy_, run_underlying hu, Builtin.lenOf, Builtin.firstCells, sizeOf, typeInfo, hq, hn, storeCells, hl]
end Go.Proofs.Ytjjahhiaelaocaa
