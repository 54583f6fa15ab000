/- The ring as plain data: places, the first one's, and what lies in them, round and round. -/
import Derived.Test.YtokjachnbipjjaaMem
namespace Go.Proofs.Ytokjachnbipjjaa
open Go.ChangeShapes Go.WideShapes Go.ChangeAt Go.RowKit

theorem info_parts {P : Program} {t : TypeId} {z : Value} {n b : Nat} (h : (P.info? t).map (fun i => (i.zero, i.size, i.bytes)) = some (some z, n, b)) : ∃ i, P.info? t = some i ∧ i.zero = some z ∧ i.size = n ∧ i.bytes = b := by
  cases hq : P.info? t with
  | none => simp [hq] at h
  | some i => simp [hq] at h; exact ⟨i, rfl, h.1, h.2.1, h.2.2⟩
theorem ret_ib {a b : Int} {c d : Bool} (h : a = b) (h' : c = d) : Ending.returned (.tuple #[.int .i64 a, .bool c]) = .returned (.tuple #[.int .i64 b, .bool d]) := by rw [h, h']
theorem ret_int {k : IntKind} {a b : Int} (h : a = b) : Ending.returned (.int k a) = .returned (.int k b) := by rw [h]
theorem row_snoc {α : Type} {f : α → List Value} (l : List α) (x : α) : row f (l ++ [x]) = row f l ++ f x := by rw [row_append]; simp [row]
theorem snoc_or {α : Type} (l : List α) : l = [] ∨ ∃ m x, l = m ++ [x] := by
  rcases List.eq_nil_or_concat l with h | ⟨m, x, h⟩
  · exact Or.inl h
  · exact Or.inr ⟨m, x, by simpa using h⟩

theorem take_snoc {α : Type} {l : List α} {k : Nat} {x : α} (h : l[k]? = some x) : l.take (k + 1) = l.take k ++ [x] := by rw [List.take_add_one, h]; rfl

/-- one element of a row of elements of one cell -/
theorem own1_at {α : Type} {f : α → List Value} {w : World} {b : Nat} {e : TypeId} {v : Value} {l : List α} (h : w.ownsRow b e 1 v l.length (row f l)) (hf : ∀ x, (f x).length = 1) {i : Nat} {x : α} (hx : l[i]? = some x) :
    ∃ g cap, v = .slice (some ⟨g, 0, none⟩) l.length cap ∧ g < w.heap.size ∧ w.cell? ⟨g, i, none⟩ = (f x)[0]? := by
  have hi : i < l.length := (List.getElem?_eq_some_iff.1 hx).1
  obtain ⟨g, cap, rfl, _, hg⟩ := h.form (by omega)
  refine ⟨g, cap, rfl, hg, ?_⟩
  rw [h.cellAt i (by omega), show i = i * 1 + 0 by omega, row_get hf l i 0 x hx (by decide)]

/-- how many places there are -/
def room0 (n : Int) : Nat := (min (max n 1) 4096).toNat
theorem room0_pos (n : Int) : 1 ≤ room0 n := by unfold room0; omega
theorem room0_le (n : Int) : room0 n ≤ 4096 := by unfold room0; omega
theorem room0_nat {n : Nat} (h1 : 1 ≤ n) (h2 : n ≤ 4096) : room0 (n : Int) = n := by unfold room0; omega

theorem wrap_at {room f i : Nat} (hf : f < room) (hi : i ≤ room) : (f + i) % room = if f + i < room then f + i else f + i - room := by
  split
  · exact Nat.mod_eq_of_lt (by assumption)
  · rw [Nat.mod_eq_sub_mod (by omega), Nat.mod_eq_of_lt (by omega)]
theorem wrap_lt {room : Nat} (k : Nat) (h : 1 ≤ room) : k % room < room := Nat.mod_lt _ (by omega)

/-- l lies in the places pl, from first on, behind the last place place 0 -/
structure Lay {α : Type} (room : Nat) (pl : List α) (first : Nat) (l : List α) : Prop where
  pos : 1 ≤ room
  top : room ≤ 4096
  fits : l.length ≤ room
  used : (pl.length = room ∧ first < room) ∨ (pl.length < room ∧ first + l.length = pl.length)
  here : ∀ i x, l[i]? = some x → pl[(first + i) % room]? = some x

section
variable {α : Type} {room : Nat} {pl : List α} {first : Nat} {l : List α}
theorem Lay.start (h1 : 1 ≤ room) (h2 : room ≤ 4096) : Lay room ([] : List α) 0 [] := ⟨h1, h2, Nat.zero_le _, Or.inr ⟨by simp; omega, rfl⟩, fun i x h => by simp at h⟩
theorem Lay.first_lt (h : Lay room pl first l) : first < room := by have := h.used; omega
theorem Lay.len_le (h : Lay room pl first l) : pl.length ≤ room := by have := h.used; omega
theorem Lay.at_lt (h : Lay room pl first l) {i : Nat} (hi : i < l.length) : (first + i) % room < pl.length := by
  have hf := h.fits
  have := h.used
  rw [wrap_at h.first_lt (by omega)]
  split <;> omega
/-- one more, at a place that was used before -/
theorem Lay.push_old (h : Lay room pl first l) (v : α) (hl : l.length < room) (ht : (first + l.length) % room < pl.length) : Lay room (pl.set ((first + l.length) % room) v) first (l ++ [v]) := by
  have hf := h.first_lt
  have e := wrap_at hf (show l.length ≤ room by omega)
  have hu := h.used
  refine ⟨h.pos, h.top, by simp; omega, ?_, fun i x hx => ?_⟩
  · simp only [List.length_set, List.length_append, List.length_cons, List.length_nil]
    rw [e] at ht
    split at ht <;> omega
  · by_cases hi : i < l.length
    · rw [List.getElem?_append_left hi] at hx
      have e2 := wrap_at hf (show i ≤ room by omega)
      rw [List.getElem?_set_ne (by rw [e, e2]; split <;> split <;> omega)]
      exact h.here i x hx
    · have hi2 : i = l.length := by
        have := (List.getElem?_eq_some_iff.1 hx).1
        simp at this; omega
      subst hi2
      simp at hx
      subst hx
      rw [List.getElem?_set_self ht]
/-- one more, at a new place -/
theorem Lay.push_new (h : Lay room pl first l) (v : α) (hl : l.length < room) (ht : ¬ (first + l.length) % room < pl.length) : Lay room (pl ++ [v]) first (l ++ [v]) := by
  have hf := h.first_lt
  have e := wrap_at hf (show l.length ≤ room by omega)
  have hu := h.used
  have e0 : (first + l.length) % room = pl.length ∧ first + l.length = pl.length ∧ pl.length < room := by
    rw [e] at ht ⊢
    split at ht <;> split <;> omega
  refine ⟨h.pos, h.top, by simp; omega, ?_, fun i x hx => ?_⟩
  · simp only [List.length_append, List.length_cons, List.length_nil]
    omega
  · by_cases hi : i < l.length
    · rw [List.getElem?_append_left hi] at hx
      rw [List.getElem?_append_left (h.at_lt hi)]
      exact h.here i x hx
    · have hi2 : i = l.length := by
        have := (List.getElem?_eq_some_iff.1 hx).1
        simp at this; omega
      subst hi2
      simp at hx
      subst hx
      rw [e0.1]
      simp
/-- the first one -/
theorem Lay.head {x : α} {r : List α} (h : Lay room pl first (x :: r)) : pl[first]? = some x := by
  have := h.here 0 x rfl
  rwa [Nat.add_zero, Nat.mod_eq_of_lt h.first_lt] at this
theorem Lay.pop {x : α} {r : List α} (h : Lay room pl first (x :: r)) (z : α) : Lay room (pl.set first z) ((first + 1) % room) r := by
  have hf := h.first_lt
  have hp := h.pos
  have hl := h.fits
  have hu := h.used
  simp only [List.length_cons] at hl hu
  have e := wrap_at hf (show 1 ≤ room from hp)
  refine ⟨hp, h.top, by omega, ?_, fun i y hy => ?_⟩
  · simp only [List.length_set]
    rw [e]
    split <;> omega
  · have hi := (List.getElem?_eq_some_iff.1 hy).1
    have q := h.here (i + 1) y (by simpa using hy)
    have e2 := wrap_at hf (show i + 1 ≤ room by omega)
    have e3 : ((first + 1) % room + i) % room = (first + (i + 1)) % room := by
      rw [Nat.mod_add_mod, Nat.add_assoc, Nat.add_comm 1 i]
    rw [e3, List.getElem?_set_ne (by rw [e2]; split <;> omega)]
    exact q
end

/-- the place of the i-th one, as it is reckoned -/
theorem at_tmod {room first i : Nat} : Int.tmod ((first : Int) + (i : Int)) (room : Int) = (((first + i) % room : Nat) : Int) := by
  rw [← Int.natCast_add, Int.ofNat_tmod]
end Go.Proofs.Ytokjachnbipjjaa
