/- What a Take, a Give and a Set turn of an arena, cell by cell. -/
import Derived.Test.YtokmefgdbklepaaLift
namespace Go.Proofs.Ytokmefgdbklepaa
open Go.ChangeShapes Go.WideShapes Go.ChangeAt Go.RowKit

theorem live_nat {s : St} {j : Nat} : liveS s (j : Int) = match s.pl[j]? with | some x => x.2 | none => false := by
  unfold liveS
  rw [show (j : Int).toNat = j from rfl]
  cases s.pl[j]? <;> simp
theorem live_lt {s : St} {j : Nat} (h : liveS s (j : Int) = true) : j < s.pl.length := by
  obtain ⟨_, x, hx⟩ := live_iff.1 h
  exact (List.getElem?_eq_some_iff.1 hx).1

section
variable {s : St} {k j : Nat}
theorem set_live (x : ((Nat → Int) × Bool)) (hk : k < s.pl.length) (b : List Nat) (n : Nat) : liveS ⟨s.most, s.pl.set k x, b, n⟩ (j : Int) = if j = k then x.2 else liveS s (j : Int) := by
  rw [live_nat, live_nat]
  by_cases e : j = k
  · subst e; rw [if_pos rfl]; simp [hk]
  · rw [if_neg e]
    simp only [List.getElem?_set_ne (fun q => e q.symm)]
theorem set_has (x : ((Nat → Int) × Bool)) (hk : k < s.pl.length) (b : List Nat) (n : Nat) : hasS ⟨s.most, s.pl.set k x, b, n⟩ j = if j = k then x.1 else hasS s j := by
  unfold hasS
  by_cases e : j = k
  · subst e; rw [if_pos rfl]; simp [hk]
  · rw [if_neg e]
    simp only [List.getElem?_set_ne (fun q => e q.symm)]
theorem app_live (b : List Nat) (n : Nat) : liveS ⟨s.most, s.pl ++ [(fr, true)], b, n⟩ (j : Int) = if j = s.pl.length then true else liveS s (j : Int) := by
  rw [live_nat, live_nat]
  by_cases e : j = s.pl.length
  · subst e; simp
  · rw [if_neg e]
    by_cases h : j < s.pl.length
    · simp only [List.getElem?_append_left h]
    · have h1 : (s.pl ++ [(fr, true)])[j]? = none := by rw [List.getElem?_eq_none]; simp; omega
      have h2 : s.pl[j]? = none := by rw [List.getElem?_eq_none]; omega
      simp only [h1, h2]
theorem app_has (b : List Nat) (n : Nat) : hasS ⟨s.most, s.pl ++ [(fr, true)], b, n⟩ j = if j = s.pl.length then fr else hasS s j := by
  unfold hasS
  by_cases e : j = s.pl.length
  · subst e; simp
  · rw [if_neg e]
    by_cases h : j < s.pl.length
    · simp only [List.getElem?_append_left h]
    · have h1 : (s.pl ++ [(fr, true)])[j]? = none := by rw [List.getElem?_eq_none]; simp; omega
      have h2 : s.pl[j]? = none := by rw [List.getElem?_eq_none]; omega
      simp only [h1, h2]

/-- a Take -/
theorem take_cases (ok : Ok s) : (nextS s = -1 ∧ takeS s = tick s) ∨ ∃ k : Nat, nextS s = k ∧ k < s.most ∧ liveS s (k : Int) = false ∧ (∀ j : Nat, liveS (takeS s) (j : Int) = if j = k then true else liveS s (j : Int)) ∧ (∀ j : Nat, hasS (takeS s) j = if j = k then fr else hasS s j) ∧ (takeS s).most = s.most ∧ (takeS s).steps = s.steps + 1 := by
  obtain ⟨most, pl, back, steps⟩ := s
  rcases snoc_or back with rfl | ⟨bk, a, rfl⟩
  · by_cases c : pl.length = most
    · exact Or.inl ⟨nextS_full c, takeS_full c⟩
    · refine Or.inr ⟨pl.length, nextS_new c, ?_, ?_, ?_, ?_, ?_, ?_⟩
      · have h := ok.fits
        show pl.length < most
        have h' : pl.length ≤ most := h
        omega
      · exact live_far (by show (pl.length : Int) ≤ _; omega)
      · intro j; rw [takeS_new c]; exact app_live (s := ⟨most, pl, [], steps⟩) _ _
      · intro j; rw [takeS_new c]; exact app_has (s := ⟨most, pl, [], steps⟩) _ _
      · rw [takeS_new c]
      · rw [takeS_new c]
  · obtain ⟨y, hy⟩ := ok.free a (by simp)
    have hlt : a < pl.length := (List.getElem?_eq_some_iff.1 hy).1
    refine Or.inr ⟨a, nextS_back, ?_, ?_, ?_, ?_, ?_, ?_⟩
    · have h : pl.length ≤ most := ok.fits
      show a < most
      omega
    · rw [live_nat]; simp only [hy]
    · intro j; rw [takeS_back]; exact set_live (s := ⟨most, pl, bk ++ [a], steps⟩) (fr, true) hlt _ _
    · intro j; rw [takeS_back]; exact set_has (s := ⟨most, pl, bk ++ [a], steps⟩) (fr, true) hlt _ _
    · rw [takeS_back]
    · rw [takeS_back]

/-- a Give of a cell that is taken -/
theorem give_turns (h : liveS s (k : Int) = true) : (∀ j : Nat, liveS (giveS s k) (j : Int) = if j = k then false else liveS s (j : Int)) ∧ (∀ j : Nat, hasS (giveS s k) j = hasS s j) ∧ (giveS s k).most = s.most ∧ (giveS s k).steps = s.steps + 1 := by
  obtain ⟨_, x, hx⟩ := live_iff.1 h
  have hlt := live_lt h
  rw [give_yes h hx]
  refine ⟨fun j => set_live (x, false) (by simpa using hlt) _ _, fun j => ?_, rfl, rfl⟩
  rw [show (k : Int).toNat = k from rfl, set_has (x, false) hlt]
  split
  · rename_i e; subst e; exact (has_of hx).symm
  · rfl
/-- a Set in a cell that is taken -/
theorem set_turns {f : Nat} {v : Int} (hf : f < 10) (h : liveS s (k : Int) = true) : (∀ j : Nat, liveS (setS s k f v) (j : Int) = liveS s (j : Int)) ∧ (∀ j : Nat, hasS (setS s k f v) j = if j = k then upd (hasS s k) f v else hasS s j) ∧ (setS s k f v).most = s.most ∧ (setS s k f v).steps = s.steps + 1 := by
  have hm : mayS s k f = true := by unfold mayS; rw [h]; simp; omega
  obtain ⟨_, x, hx⟩ := live_iff.1 h
  have hlt := live_lt h
  rw [set_yes hm hx]
  refine ⟨fun j => ?_, fun j => ?_, rfl, rfl⟩
  · rw [show (k : Int).toNat = k from rfl, set_live _ hlt]
    split
    · rename_i e; subst e; exact h.symm
    · rfl
  · have e := has_of hx
    rw [show (k : Int).toNat = k from rfl] at e
    rw [show (k : Int).toNat = k from rfl, set_has _ hlt, e]
    rfl
theorem may_live {f : Nat} (hf : f < 10) (h : liveS s (k : Int) = true) : mayS s k f = true := by unfold mayS; rw [h]; simp; omega
theorem get_live {f : Nat} (hf : f < 10) (h : liveS s (k : Int) = true) : getS s k f = hasS s k f := by rw [get_yes (may_live hf h)]; rfl
theorem cnt_le : ∀ l : List ((Nat → Int) × Bool), cnt l ≤ l.length
  | [] => Nat.le_refl _
  | x :: r => by
    have := cnt_le r
    simp only [cnt, List.length_cons]
    cases x.2 <;> simp <;> omega
theorem cnt_take (l : List ((Nat → Int) × Bool)) (j : Nat) : cnt (l.take (j + 1)) = cnt (l.take j) + (match l[j]? with | some x => x.2 | none => false).toNat := by
  rw [List.take_add_one, cnt_append]
  cases l[j]? with
  | none => simp [cnt]
  | some x => simp [cnt]
end
end Go.Proofs.Ytokmefgdbklepaa
