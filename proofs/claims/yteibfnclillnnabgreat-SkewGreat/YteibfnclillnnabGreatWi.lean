/- Within, told; which of a list it tells. -/
import Derived.Test.YteibfnclillnnabGreatGj
namespace Go.Proofs.YteibfnclillnnabGreat
open Go.ChangeShapes Go.WideShapes Go.ChangeAt Go.RowKit

/-- Within, told -/
def winI (n lo hi : Int) : Int := if lo ≤ n ∧ n ≤ hi then n else if n.tmod (hi - lo + 1) < 0 then lo + (n.tmod (hi - lo + 1) + hi - lo + 1) else lo + n.tmod (hi - lo + 1)
theorem winI_le (n lo hi : Int) (h : lo ≤ hi) : lo ≤ winI n lo hi ∧ winI n lo hi ≤ hi := by
  obtain ⟨t1, t2⟩ := tmod_bounds n (k := hi - lo + 1) (by omega)
  unfold winI
  split
  · assumption
  · split <;> omega
set_option maxHeartbeats 1000000 in
theorem within_eq (n : Int) (hn : I64 n) (hi : Int) (hlh : 0 ≤ hi) (hh : hi ≤ 1000) (w : World) :
    Calls Tryz.prog 7 #[.int .i64 n, .int .i64 0, .int .i64 hi] w fun e w' => e = .returned (.int .i64 (winI n 0 hi)) ∧ w' = w := by
  obtain ⟨h1, h2⟩ := hn
  by_cases c1 : 0 ≤ n
  · by_cases c2 : n ≤ hi
    · have E := hid (show winI n 0 hi = n by unfold winI; rw [if_pos ⟨c1, c2⟩])
      go_enter Tryz.func7, Tryz.ntmps7
      go_wp2
      go_ret
      exact ⟨ret_int E.out.symm, rfl⟩
    · have hwd : IntKind.i64.wrap (hi + 1) = hi + 1 := IntWalk.i64_in _ (by omega)
      have hne : ¬ (hi + 1 = 0) := by omega
      obtain ⟨t1, t2⟩ := tmod_bounds n (k := hi + 1) (by omega)
      have c2' : decide (n ≤ hi) = false := by simp; omega
      have E := hid (show winI n 0 hi = if n.tmod (hi + 1) < 0 then n.tmod (hi + 1) + hi + 1 else n.tmod (hi + 1) by unfold winI; rw [if_neg (by omega)]; simp)
      obtain ⟨t, ht⟩ : ∃ t : Int, n.tmod (hi + 1) = t := ⟨_, rfl⟩
      rw [ht] at t1 t2 E
      by_cases c3 : t < 0
      · go_enter Tryz.func7, Tryz.ntmps7
        go_wp2
        go_ret
        exact ⟨ret_int (by rw [E.out, if_pos c3]), rfl⟩
      · have c3' : decide (t < 0) = false := by simp; omega
        go_enter Tryz.func7, Tryz.ntmps7
        go_wp2
        go_ret
        exact ⟨ret_int (by rw [E.out, if_neg (by omega)]), rfl⟩
  · have hwd : IntKind.i64.wrap (hi + 1) = hi + 1 := IntWalk.i64_in _ (by omega)
    have hne : ¬ (hi + 1 = 0) := by omega
    obtain ⟨t1, t2⟩ := tmod_bounds n (k := hi + 1) (by omega)
    have c1' : decide (0 ≤ n) = false := by simp; omega
    have E := hid (show winI n 0 hi = if n.tmod (hi + 1) < 0 then n.tmod (hi + 1) + hi + 1 else n.tmod (hi + 1) by unfold winI; rw [if_neg (by omega)]; simp)
    obtain ⟨t, ht⟩ : ∃ t : Int, n.tmod (hi + 1) = t := ⟨_, rfl⟩
    rw [ht] at t1 t2 E
    by_cases c3 : t < 0
    · go_enter Tryz.func7, Tryz.ntmps7
      go_wp2
      go_ret
      exact ⟨ret_int (by rw [E.out, if_pos c3]), rfl⟩
    · have c3' : decide (t < 0) = false := by simp; omega
      go_enter Tryz.func7, Tryz.ntmps7
      go_wp2
      go_ret
      exact ⟨ret_int (by rw [E.out, if_neg (by omega)]), rfl⟩


/-- which one of so many -/
def winN (n : Int) (len : Nat) : Nat := (winI n 0 ((len : Int) - 1)).toNat
theorem winN_lt (n : Int) {len : Nat} (h : 0 < len) : winN n len < len ∧ winI n 0 ((len : Int) - 1) = (winN n len : Int) := by
  have := winI_le n 0 ((len : Int) - 1) (by omega)
  unfold winN
  omega
/-- a list without that one -/
def cutL (n : Int) (L : List (Nat × Int × Int)) : List (Nat × Int × Int) := L.take (winN n L.length) ++ L.drop (winN n L.length + 1)
/-- that one with a lower Key, behind the others -/
def fallL (n key : Int) (L : List (Nat × Int × Int)) : List (Nat × Int × Int) :=
  match L[winN n L.length]? with
  | some x => cutL n L ++ [(x.1, min x.2.1 key, x.2.2)]
  | none => L
theorem cutL_len (n : Int) {L : List (Nat × Int × Int)} (h : L ≠ []) : (cutL n L).length = L.length - 1 := by
  have h0 : 0 < L.length := List.length_pos_iff.2 h
  have := (winN_lt n h0).1
  unfold cutL
  simp; omega
theorem fallL_some {n key : Int} {L : List (Nat × Int × Int)} {x : Nat × Int × Int} (h : L[winN n L.length]? = some x) : fallL n key L = cutL n L ++ [(x.1, min x.2.1 key, x.2.2)] := by unfold fallL; rw [h]
theorem fallL_len (n key : Int) (L : List (Nat × Int × Int)) : (fallL n key L).length = L.length := by
  by_cases h : L = []
  · subst h; rfl
  · have h0 : 0 < L.length := List.length_pos_iff.2 h
    have h1 := (winN_lt n h0).1
    rw [fallL_some (List.getElem?_eq_getElem h1), List.length_append, cutL_len n h]
    simp; omega
theorem cutL_nil (n : Int) : cutL n [] = [] := by simp [cutL]
theorem fallL_nil (n key : Int) : fallL n key [] = [] := by simp [fallL]
end Go.Proofs.YteibfnclillnnabGreat
