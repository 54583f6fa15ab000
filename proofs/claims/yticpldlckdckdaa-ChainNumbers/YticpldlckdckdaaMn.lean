/- Slices of a law's own beside an arena. -/
import Derived.Test.YticpldlckdckdaaSg
import Derived.Test.YticpldlckdckdaaLift
namespace Go.Proofs.Yticpldlckdckdaa
open Go.ChangeShapes Go.WideShapes Go.ChangeAt Go.RowKit

/-- a slice that the call made, outside of F -/
structure Mine (w0 w : World) (F : Nat → Prop) (e : TypeId) (v : Value) (n : Nat) (xs : List Value) : Prop where
  own : w.ownsRow 0 e 1 v n xs
  out : ∀ k, v.ownBlock = some k → ¬ F k ∧ w0.heap.size ≤ k

section
variable {w0 w w' : World} {F G : Nat → Prop} {e : TypeId} {v : Value} {n : Nat} {xs : List Value}
theorem Mine.nil (w0 w : World) (F : Nat → Prop) (e : TypeId) : Mine w0 w F e (.slice none 0 0) 0 [] := ⟨World.ownsRow_nil w 0 e 1, fun k hk => by cases hk⟩
theorem Mine.call (h : Mine w0 w F e v n xs) (k : Kept F w w') : Mine w0 w' (Grow F w w') e v n xs :=
  ⟨own_kept h.own k fun i hi => (h.out i hi).1, fun i hi => ⟨fun q => q.elim (h.out i hi).1 fun q => by have := (h.own.lt i hi).2; omega, (h.out i hi).2⟩⟩
theorem Mine.stay (h : Mine w0 w F e v n xs) (k : Kept F w w') : Mine w0 w' F e v n xs := ⟨own_kept h.own k fun i hi => (h.out i hi).1, h.out⟩
theorem Mine.plain (h : Mine w0 w F e v n xs) (k : Kept (fun _ => False) w w') : Mine w0 w' F e v n xs := ⟨own_plain h.own k, h.out⟩
theorem Mine.other (h : Mine w0 w F e v n xs) (k : Kept G w w') (hd : ∀ i, v.ownBlock = some i → ¬ G i) : Mine w0 w' F e v n xs := ⟨own_kept h.own k hd, h.out⟩
theorem Mine.lt (h : Mine w0 w F e v n xs) : ∀ k, v.ownBlock = some k → k < w.heap.size := fun k hk => (h.own.lt k hk).2
/-- a row that was made since -/
theorem Mine.of_own {base : Nat} (h : w.ownsRow base e 1 v n xs) (h0 : w0.heap.size ≤ base) (hF : ∀ k, F k → k < base) : Mine w0 w F e v n xs :=
  ⟨own_base h (Nat.zero_le _), fun k hk => by have := (h.lt k hk).1; exact ⟨fun q => by have := hF k q; omega, by omega⟩⟩
/-- something is appended -/
theorem Mine.pushed {g cap m : Nat} {news : List Value} (h : Mine w0 w F e v n xs) (ho : w'.ownsRow 0 e 1 (.slice (some ⟨g, 0, none⟩) (n + m) cap) (n + m) (xs ++ news)) (hat : v.ownBlock = some g ∨ w.heap.size ≤ g) (hF : ∀ k, F k → k < w.heap.size) (hB : w0.heap.size ≤ w.heap.size) :
    Mine w0 w' F e (.slice (some ⟨g, 0, none⟩) (n + m) cap) (n + m) (xs ++ news) := by
  refine ⟨ho, fun k hk => ?_⟩
  cases hk
  show ¬ F g ∧ w0.heap.size ≤ g
  rcases hat with q | q
  · exact h.out g q
  · exact ⟨fun z => by have := hF _ z; omega, by omega⟩
end

theorem Hr.pushed {w0 w w' : World} {F : Nat → Prop} {pa pm n k t : Nat} {nx pv : Nat → Nat} {e : TypeId} {v : Value} {m : Nat} {xs : List Value} {o : Obj} (h : Hr w0 w F pa pm n k nx pv t) (hm : Mine w0 w F e v m xs) (hg : (w.alloc o).grownBy w' v.ownBlock) : Hr w0 w' F pa pm n k nx pv t :=
  (h.plain ((Kept.refl _ _).alloc _)).other (kept_of_grown hg) (fun i hi => (hm.out i hi).2) (fun i hF hi => (hm.out i hi).1 hF)
theorem rng_row (i : Nat) : row nat1 (List.range' 0 (i + 1)) = row nat1 (List.range' 0 i) ++ [.int .i64 (i : Int)] := by
  rw [List.range'_concat, row_snoc]; simp [nat1]
/-- one more number behind those up to i -/
theorem Mine.range {w0 w w' : World} {F : Nat → Prop} {v : Value} {i g cap : Nat} (h : Mine w0 w F 3 v i (row nat1 (List.range' 0 i))) (ho : w'.ownsRow 0 3 1 (.slice (some ⟨g, 0, none⟩) (i + 1) cap) (i + 1) (row nat1 (List.range' 0 i) ++ [.int .i64 (i : Int)])) (hat : v.ownBlock = some g ∨ g = w.heap.size + 1) (hF : ∀ k, F k → k < w.heap.size) (hB : w0.heap.size ≤ w.heap.size) :
    Mine w0 w' F 3 (.slice (some ⟨g, 0, none⟩) (i + 1) cap) (List.range' 0 (i + 1)).length (row nat1 (List.range' 0 (i + 1))) := by
  rw [rng_row, List.length_range']
  exact h.pushed ho (hat.imp id fun e => by omega) hF hB

/-- what is ahead of one of a list, and what is behind it -/
theorem Src.cut {P : Nat → Prop} {w : World} {b off n cap c j : Nat} {l1 l2 : List Nat} (h : Lies P w (.slice (some ⟨b, off, none⟩) n cap) (l1 ++ c :: l2)) (hj : l1.length = j) :
    Src w.heap.size w (.slice (some ⟨b, off, none⟩) j cap) l1 ∧ Src w.heap.size w (.slice (some ⟨b, off + (j + 1), none⟩) (n - (j + 1)) (cap - (j + 1))) l2 ∧ n = j + 1 + l2.length ∧ n ≤ cap ∧ cap ≤ maxLen ∧ b < w.heap.size := by
  subst hj
  rcases h with ⟨e, _⟩ | ⟨b', off', cap', e, h1, h2, h3, h4, h5⟩
  · cases e
  · cases e
    have hn : (l1 ++ c :: l2).length = l1.length + 1 + l2.length := by simp; omega
    refine ⟨Or.inr ⟨b, off, cap, rfl, h3, fun i x hx => h5 i x (by rw [List.getElem?_append_left (List.getElem?_eq_some_iff.1 hx).1]; exact hx)⟩, Or.inr ⟨b, off + (l1.length + 1), _, by rw [hn, Nat.add_sub_cancel_left], h3, fun i x hx => ?_⟩, hn, h1, h2, h3⟩
    have := h5 (l1.length + 1 + i) x (by rw [List.getElem?_append_right (by omega), show l1.length + 1 + i - l1.length = i + 1 by omega]; simpa using hx)
    rwa [show off + (l1.length + 1) + i = off + (l1.length + 1 + i) by omega]
theorem split_at {l : List Nat} {j c : Nat} (h : l[j]? = some c) : ∃ l1 l2, l = l1 ++ c :: l2 ∧ l1.length = j := by
  obtain ⟨hj, e⟩ := List.getElem?_eq_some_iff.1 h
  refine ⟨l.take j, l.drop (j + 1), ?_, by simp; omega⟩
  rw [← e, List.getElem_cons_drop, List.take_append_drop]
theorem mine_at {w0 w : World} {F : Nat → Prop} {g n cap : Nat} {l : List Nat} (h : Mine w0 w F 3 (.slice (some ⟨g, 0, none⟩) n cap) l.length (row nat1 l)) {i x : Nat} (hx : l[i]? = some x) : w.cell? ⟨g, i, none⟩ = some (.int .i64 (x : Int)) := by
  obtain ⟨g', cap', e, _, _, hc⟩ := own1_at h.own nat1_len hx
  cases e
  exact hc
end Go.Proofs.Yticpldlckdckdaa
