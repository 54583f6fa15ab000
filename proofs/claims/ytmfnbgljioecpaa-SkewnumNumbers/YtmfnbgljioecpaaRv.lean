/- The walk of the library's Reverse over a list of the call's own. -/
import Derived.Test.YtmfnbgljioecpaaCc
namespace Go.Proofs.Ytmfnbgljioecpaa
open Go.ChangeShapes Go.WideShapes Go.ChangeAt Go.RowKit

theorem int1_set (M : List Int) (j : Nat) (y : Int) (hj : j < M.length) : (row int1 M).set j (.int .i64 y) = row int1 (M.set j y) := by
  have := row_set int1_len M j 0 M[j] y (.int .i64 y) (List.getElem?_eq_getElem hj) (by omega) rfl
  simpa using this
theorem Own.set {w : World} {B g cap : Nat} {M : List Int} (h : Own w B (.slice (some ⟨g, 0, none⟩) M.length cap) M) (j : Nat) (y : Int) (hj : j < M.length) : Own (w.setCell ⟨g, j, none⟩ (.int .i64 y)) B (.slice (some ⟨g, 0, none⟩) M.length cap) (M.set j y) := by
  have := (World.ownsRow.stored h j (.int .i64 y)).1
  unfold Own
  rw [List.length_set, ← int1_set M j y hj]
  exact this
theorem Own.at {w : World} {B g cap : Nat} {M : List Int} (h : Own w B (.slice (some ⟨g, 0, none⟩) M.length cap) M) (j : Nat) (y : Int) (hj : M[j]? = some y) : w.cell? ⟨g, j, none⟩ = some (.int .i64 y) := by
  have hl := (List.getElem?_eq_some_iff.1 hj).1
  rw [World.ownsRow.cellAt h j (by omega), int1_at, hj]
  rfl

/-- turned round as far as i -/
def Rev (L M : List Int) (i : Nat) : Prop := M.length = L.length ∧ ∀ p, p < L.length → M[p]? = if p < i ∨ L.length - i ≤ p then L[L.length - 1 - p]? else L[p]?

theorem Rev.start (L : List Int) : Rev L L 0 := ⟨rfl, fun p hp => by rw [if_neg (by omega)]⟩
theorem Rev.step {L M : List Int} {i j : Nat} {x y : Int} (h : Rev L M i) (hij : i < j) (hs : i + j = L.length - 1) (hl : j < L.length) (hx : M[i]? = some x) (hy : M[j]? = some y) : Rev L ((M.set i y).set j x) (i + 1) := by
  refine ⟨by simp [h.1], fun p hp => ?_⟩
  have hi := h.2 i (by omega)
  have hj := h.2 j hl
  rw [if_neg (by omega), hx] at hi
  rw [if_neg (by omega), hy] at hj
  by_cases e1 : p = j
  · subst e1
    rw [if_pos (by omega), List.getElem?_set_self (by simp [h.1]; omega), show L.length - 1 - p = i by omega]
    exact hi
  · rw [List.getElem?_set_ne (by omega)]
    by_cases e2 : p = i
    · subst e2
      rw [if_pos (by omega), List.getElem?_set_self (by rw [h.1]; omega), show L.length - 1 - p = j by omega]
      exact hj
    · rw [List.getElem?_set_ne (by omega), h.2 p hp]
      by_cases c : p < i ∨ L.length - i ≤ p
      · rw [if_pos c, if_pos (by omega)]
      · rw [if_neg c, if_neg (by omega)]
theorem Rev.done {L M : List Int} {i : Nat} (h : Rev L M i) (hi : L.length ≤ 2 * i + 1) : M = L.reverse := by
  refine List.ext_getElem? fun p => ?_
  by_cases hp : p < L.length
  · rw [h.2 p hp, List.getElem?_reverse hp]
    by_cases c : p < i ∨ L.length - i ≤ p
    · rw [if_pos c]
    · rw [if_neg c, show L.length - 1 - p = p by omega]
  · rw [List.getElem?_eq_none (by rw [h.1]; omega), List.getElem?_eq_none (by simp; omega)]

set_option maxHeartbeats 2000000 in
theorem reverse_any (B : Nat) (v : Value) (L : List Int) (w : World) (h : Own w B v L) (hl : L.length ≤ 1000) :
    Calls Try.prog 21 #[v] w fun e w' => e = .returned (.tuple #[]) ∧ Own w' B v L.reverse ∧ Below B w w' := by
  by_cases h0 : L = []
  · subst h0
    obtain ⟨a, c, rfl⟩ := own_form h
    have H := hid h
    simp only [List.length_nil] at *
    clear h
    go_enter Try.func21, Try.ntmps21
    go_wp2
    go_loopw [2, 3] (fun iv jv wr => iv = .int .i64 0 ∧ jv = .int .i64 (-1) ∧ w = wr) (fun _ _ _ => 0)
    case atStart => exact ⟨rfl, rfl, rfl⟩
    case round =>
      obtain ⟨rfl, rfl, rfl⟩ := hrel
      go_wp2
      go_end0
      exact ⟨rfl, by simpa using H.out, Below.refl _ _⟩
  · rcases h.2 with ⟨rfl, h1⟩ | ⟨g, cap, cur, rfl, hb, _⟩
    · exact absurd (List.eq_nil_of_length_eq_zero h1) h0
    have H := hid h
    have hp := List.length_pos_iff.2 h0
    obtain ⟨N, hN⟩ : ∃ N, N = L.length := ⟨_, rfl⟩
    have HN := hid hN
    rw [← hN] at hl hp ⊢
    clear h h0 hN
    go_enter Try.func21, Try.ntmps21
    go_wp2
    go_loopw [2, 3] (fun iv jv wr => ∃ (i : Nat) (j : Int) (M : List Int), iv = .int .i64 (i : Int) ∧ jv = .int .i64 j ∧ (i : Int) + j = (N : Int) - 1 ∧ (i : Int) ≤ j + 2 ∧ Rev L M i ∧ Own wr B (.slice (some ⟨g, 0, none⟩) N cap) M ∧ Below B w wr) (fun _ jv _ => (intOf jv + 1).toNat)
    case atStart => exact ⟨0, (N : Int) - 1, L, rfl, by rfl, by omega, by omega, Rev.start L, by rw [HN.out]; exact H.out, Below.refl _ _⟩
    case round =>
      obtain ⟨i, j, M, rfl, rfl, hij, hij2, hrev, ho, hbl⟩ := hrel
      have HML : Hid (M.length = N) := hid (by rw [hrev.1, HN.out])
      by_cases hlt : (i : Int) < j
      · obtain ⟨k, rfl⟩ : ∃ k : Nat, j = k := ⟨j.toNat, by omega⟩
        have hk : k < N := by omega
        have hi : i < N := by omega
        have hx : M[i]? = some (M[i]'(by rw [HML.out]; exact hi)) := List.getElem?_eq_getElem _
        have hy : M[k]? = some (M[k]'(by rw [HML.out]; exact hk)) := List.getElem?_eq_getElem _
        generalize M[i]'(by rw [HML.out]; exact hi) = x at hx
        generalize M[k]'(by rw [HML.out]; exact hk) = y at hy
        have ho' : Own wr B (.slice (some ⟨g, 0, none⟩) M.length cap) M := by rw [HML.out]; exact ho
        have c1 := ho'.at i x hx
        have c2 := ho'.at k y hy
        have f1 := World.ownsRow.frozenAt ho' i
        have f2 := World.ownsRow.frozenAt ho' k
        have hi' : (i : Int) < (N : Int) := by omega
        have hk' : (k : Int) < (N : Int) := by omega
        have RS := hid (hrev.step (by omega) (by rw [← HN.out]; omega) (by rw [← HN.out]; omega) hx hy)
        have HO := hid (show Own ((wr.setCell ⟨g, i, none⟩ (.int .i64 y)).setCell ⟨g, k, none⟩ (.int .i64 x)) B (.slice (some ⟨g, 0, none⟩) N cap) ((M.set i y).set k x) from by
          have q1 := ho'.set i y (by rw [HML.out]; exact hi)
          have q1' : Own (wr.setCell ⟨g, i, none⟩ (.int .i64 y)) B (.slice (some ⟨g, 0, none⟩) (M.set i y).length cap) (M.set i y) := by rw [List.length_set]; exact q1
          have q2 := q1'.set k x (by rw [List.length_set, HML.out]; exact hk)
          rw [List.length_set, HML.out] at q2
          exact q2)
        have HB := hid (((hbl.setCell (p := ⟨g, i, none⟩) hb (.int .i64 y)).setCell (p := ⟨g, k, none⟩) hb (.int .i64 x)))
        have HIJ := hid hij
        clear ho ho' hrev hx hy hbl hij2 hij
        go_wp2_with fail
        go_region
        go_wp2
        go_roundw
        case rel => exact ⟨i + 1, (k : Int) - 1, (M.set i y).set k x, by go_num, by go_num, by have := HIJ.out; omega, by omega, RS.out, HO.out, HB.out.drew⟩
        case measure => simp [intOf] <;> omega
      · have E := hid (hrev.done (by rw [← HN.out]; omega))
        have HO := hid ho
        have HB := hid hbl
        clear hrev ho hbl
        go_wp2
        go_end0
        exact ⟨rfl, by rw [← E.out]; exact HO.out, HB.out⟩
end Go.Proofs.Ytmfnbgljioecpaa
