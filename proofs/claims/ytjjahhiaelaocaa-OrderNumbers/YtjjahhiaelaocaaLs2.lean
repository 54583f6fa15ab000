/- The walks of order.Sorted and of the reference's Sorted and Least, of order.Least on any slice, and of the comparing of two slices. -/
import Derived.Test.YtjjahhiaelaocaaSrt
namespace Go.Proofs.Ytjjahhiaelaocaa
open Go.ChangeShapes Go.WideShapes Go.ChangeAt Go.RowKit

/-- is none before the one ahead of it? -/
def srt (l : List (Int × Int)) : Bool := (List.range (l.length - 1)).all fun i => !befE (ent l (i + 1)) (ent l i)
theorem srt_true {l : List (Int × Int)} (h : ∀ i, i + 1 < l.length → befE (ent l (i + 1)) (ent l i) = false) : srt l = true := by
  unfold srt
  rw [List.all_eq_true]
  intro i hi
  rw [List.mem_range] at hi
  simp [h i (by omega)]
theorem srt_false {l : List (Int × Int)} {i : Nat} (hi : i + 1 < l.length) (h : befE (ent l (i + 1)) (ent l i) = true) : srt l = false := by
  unfold srt
  rw [List.all_eq_false]
  exact ⟨i, List.mem_range.2 (by omega), by simp [h]⟩
theorem srt_of_sorted {l : List (Int × Int)} (h : SortedOn l 0 l.length) : srt l = true := srt_true fun i hi => h i (i + 1) (Nat.zero_le _) (by omega) hi


set_option maxHeartbeats 1000000 in
theorem sortedRow (b off cap : Nat) (l : List (Int × Int)) (w : World) (hb : b < w.heap.size) (hl : l.length ≤ 1000000) (hr : Row w b off l) :
    Calls Try.prog 16 #[.slice (some ⟨b, off, none⟩) l.length cap] w fun e w' => e = .returned (.bool (srt l)) ∧ Below w.heap.size w w' := by
  go_enter Try.func16, Try.ntmps16
  go_wp2
  go_loopw [3] (fun iv wr => ∃ j : Nat, iv = .int .i64 j ∧ 1 ≤ j ∧ (∀ i, i + 1 < j → i + 1 < l.length → befE (ent l (i + 1)) (ent l i) = false) ∧ Below w.heap.size w wr) (fun i _ => l.length + 1 - (intOf i).toNat)
  case atStart => exact ⟨1, rfl, Nat.le_refl _, fun i h => by omega, Below.refl _ _⟩
  case round =>
    obtain ⟨j, rfl, hj1, hall, hbel⟩ := hrel
    have HA := hid hall
    clear hall
    by_cases hlt : j < l.length
    · obtain ⟨i, hij⟩ : ∃ i, j = i + 1 := ⟨j - 1, by omega⟩
      have hji : (j : Int) - 1 = (i : Int) := by omega
      have hil : i < l.length := by omega
      have hwi : IntKind.i64.wrap (i : Int) = i := IntWalk.i64_in _ (by omega)
      have HIJ := hid hij
      have hr' := hr.below hb hbel
      have hbr : b < wr.heap.size := Nat.lt_of_lt_of_le hb hbel.size
      have hbr1 : b < wr.heap.size + 1 := by omega
      obtain ⟨h1, h2⟩ := hr' j hlt
      obtain ⟨h3, h4⟩ := hr' i hil
      clear hr hr' hij
      generalize hx : (ent l j) = x at h1 h2
      generalize hy : (ent l i) = y at h3 h4
      have HX := hid hx
      have HY := hid hy
      clear hx hy
      go_wp2
      go_region_held3 (fun w' => w'.cell? ⟨b, off + j * 2, none⟩ = some (.int .i64 x.1) ∧ w'.cell? ⟨b, off + j * 2 + 1, none⟩ = some (.int .i64 x.2) ∧ w'.cell? ⟨b, off + i * 2, none⟩ = some (.int .i64 y.1) ∧ w'.cell? ⟨b, off + i * 2 + 1, none⟩ = some (.int .i64 y.2)) (simp [go_sem, hbr, hbr1, h1, h2, h3, h4])
        (first | (go_at_call 14; refine (before_any _ _ _ _ _).mono ?_; rintro e w' ⟨rfl, o1, o2, rfl⟩))
      rename_i hH
      clear hH h1 h2 h3 h4 hbr hbr1
      have BL := hid (below_a1 (below_a1 hbel (Nat.le_refl _) (.cells o1 26)) (Nat.le_refl _) (.cells o2 26)).drew
      clear hbel
      generalize hb2 : bef x.1 x.2 y.1 y.2 = r
      have HB := hid hb2
      clear hb2
      cases r
      · go_wp2
        go_roundw
        case rel =>
          refine ⟨j + 1, by go_num, by omega, fun k h1 h2 => ?_, BL.out⟩
          by_cases e : k + 1 < j
          · exact HA.out k e h2
          · have e1 := HIJ.out
            have e2 : k = i := by omega
            have q : befE (ent l j) (ent l i) = false := by rw [HX.out, HY.out]; exact HB.out
            rw [e2, ← e1]; exact q
        case measure => simp [intOf]; omega
      · go_wp2
        go_ret
        refine ⟨ret_bool ?_, BL.out⟩
        have e1 := HIJ.out
        have q : befE (ent l j) (ent l i) = true := by rw [HX.out, HY.out]; exact HB.out
        rw [e1] at q
        exact (srt_false (by omega) q).symm
    · have BL := hid hbel
      clear hbel
      go_wp2
      go_ret
      exact ⟨ret_bool (srt_true fun i hi => HA.out i (by omega) hi).symm, BL.out⟩

theorem sorted_any (a : Option Addr) (cap : Nat) (l : List (Int × Int)) (w : World) (hl : l.length ≤ 1000000) (hE : Ents w a l) :
    Calls Try.prog 16 #[.slice a l.length cap] w fun e w' => e = .returned (.bool (srt l)) ∧ Below w.heap.size w w' := by
  rcases hE with rfl | ⟨b, off, rfl, hb, hr⟩
  · go_enter Try.func16, Try.ntmps16
    go_wp2
    go_loopw [3] (fun iv wr => iv = .int .i64 1 ∧ wr = w) (fun _ _ => 0)
    case atStart => exact ⟨rfl, rfl⟩
    case round =>
      obtain ⟨rfl, rfl⟩ := hrel
      go_wp2
      go_ret
      exact ⟨rfl, Below.refl _ _⟩
  · exact sortedRow b off cap l w hb hl hr

set_option maxHeartbeats 1000000 in
theorem refSortedRow (b off cap : Nat) (l : List (Int × Int)) (w : World) (hb : b < w.heap.size) (hl : l.length ≤ 1000000) (hr : Row w b off l) :
    Calls Try.prog 28 #[.slice (some ⟨b, off, none⟩) l.length cap] w fun e w' => e = .returned (.bool (srt l)) ∧ Below w.heap.size w w' := by
  go_enter Try.func28, Try.ntmps28
  go_wp2
  go_loopw [3] (fun iv wr => ∃ j : Nat, iv = .int .i64 j ∧ 1 ≤ j ∧ (∀ i, i + 1 < j → i + 1 < l.length → befE (ent l (i + 1)) (ent l i) = false) ∧ Below w.heap.size w wr) (fun i _ => l.length + 1 - (intOf i).toNat)
  case atStart => exact ⟨1, rfl, Nat.le_refl _, fun i h => by omega, Below.refl _ _⟩
  case round =>
    obtain ⟨j, rfl, hj1, hall, hbel⟩ := hrel
    have HA := hid hall
    clear hall
    by_cases hlt : j < l.length
    · obtain ⟨i, hij⟩ : ∃ i, j = i + 1 := ⟨j - 1, by omega⟩
      have hji : (j : Int) - 1 = (i : Int) := by omega
      have hil : i < l.length := by omega
      have hwi : IntKind.i64.wrap (i : Int) = i := IntWalk.i64_in _ (by omega)
      have HIJ := hid hij
      have hr' := hr.below hb hbel
      have hbr : b < wr.heap.size := Nat.lt_of_lt_of_le hb hbel.size
      have hbr1 : b < wr.heap.size + 1 := by omega
      obtain ⟨h1, h2⟩ := hr' j hlt
      obtain ⟨h3, h4⟩ := hr' i hil
      clear hr hr' hij
      generalize hx : (ent l j) = x at h1 h2
      generalize hy : (ent l i) = y at h3 h4
      have HX := hid hx
      have HY := hid hy
      clear hx hy
      go_wp2
      go_region_held3 (fun w' => w'.cell? ⟨b, off + j * 2, none⟩ = some (.int .i64 x.1) ∧ w'.cell? ⟨b, off + j * 2 + 1, none⟩ = some (.int .i64 x.2) ∧ w'.cell? ⟨b, off + i * 2, none⟩ = some (.int .i64 y.1) ∧ w'.cell? ⟨b, off + i * 2 + 1, none⟩ = some (.int .i64 y.2)) (simp [go_sem, hbr, hbr1, h1, h2, h3, h4])
        (first | (go_at_call 18; refine (refBefore_any _ _ _ _ _).mono ?_; rintro e w' ⟨rfl, o1, o2, rfl⟩))
      rename_i hH
      clear hH h1 h2 h3 h4 hbr hbr1
      have BL := hid (below_a1 (below_a1 hbel (Nat.le_refl _) (.cells o1 26)) (Nat.le_refl _) (.cells o2 26)).drew
      clear hbel
      generalize hb2 : bef x.1 x.2 y.1 y.2 = r
      have HB := hid hb2
      clear hb2
      cases r
      · go_wp2
        go_roundw
        case rel =>
          refine ⟨j + 1, by go_num, by omega, fun k h1 h2 => ?_, BL.out⟩
          by_cases e : k + 1 < j
          · exact HA.out k e h2
          · have e1 := HIJ.out
            have e2 : k = i := by omega
            have q : befE (ent l j) (ent l i) = false := by rw [HX.out, HY.out]; exact HB.out
            rw [e2, ← e1]; exact q
        case measure => simp [intOf]; omega
      · go_wp2
        go_ret
        refine ⟨ret_bool ?_, BL.out⟩
        have e1 := HIJ.out
        have q : befE (ent l j) (ent l i) = true := by rw [HX.out, HY.out]; exact HB.out
        rw [e1] at q
        exact (srt_false (by omega) q).symm
    · have BL := hid hbel
      clear hbel
      go_wp2
      go_ret
      exact ⟨ret_bool (srt_true fun i hi => HA.out i (by omega) hi).symm, BL.out⟩

theorem refSorted_any (a : Option Addr) (cap : Nat) (l : List (Int × Int)) (w : World) (hl : l.length ≤ 1000000) (hE : Ents w a l) :
    Calls Try.prog 28 #[.slice a l.length cap] w fun e w' => e = .returned (.bool (srt l)) ∧ Below w.heap.size w w' := by
  rcases hE with rfl | ⟨b, off, rfl, hb, hr⟩
  · go_enter Try.func28, Try.ntmps28
    go_wp2
    go_loopw [3] (fun iv wr => iv = .int .i64 1 ∧ wr = w) (fun _ _ => 0)
    case atStart => exact ⟨rfl, rfl⟩
    case round =>
      obtain ⟨rfl, rfl⟩ := hrel
      go_wp2
      go_ret
      exact ⟨rfl, Below.refl _ _⟩
  · exact refSortedRow b off cap l w hb hl hr

theorem least_every (a : Option Addr) (cap : Nat) (l : List (Int × Int)) (w : World) (hl : l.length ≤ 1000000) (hE : Ents w a l) :
    Calls Try.prog 26 #[.slice a l.length cap] w fun e w' => e = .returned (.tuple #[.int .i64 (leastS l l.length), .bool (decide (0 < l.length))]) ∧ Below w.heap.size w w' := by
  by_cases h0 : 0 < l.length
  · rcases hE with rfl | ⟨b, off, rfl, hb, hr⟩
    · simp at h0
    · rw [decide_eq_true h0]
      exact least_any b off cap l w hb hl h0 hr
  · obtain rfl : l = [] := by cases l <;> simp_all
    go_enter Try.func26, Try.ntmps26
    go_wp2
    go_ret2
    exact ⟨rfl, Below.refl _ _⟩

theorem leastS_one (l : List (Int × Int)) : leastS l 1 = 0 := by
  show (if _ then _ else _) = _
  split <;> rfl

set_option maxHeartbeats 1000000 in
theorem refLeast_any (a : Option Addr) (cap : Nat) (l : List (Int × Int)) (w : World) (hl : l.length ≤ 1000000) (hE : Ents w a l) :
    Calls Try.prog 27 #[.slice a l.length cap] w fun e w' => e = .returned (.tuple #[.int .i64 (leastS l l.length), .bool (decide (0 < l.length))]) ∧ Below w.heap.size w w' := by
  go_enter Try.func27, Try.ntmps27
  go_wp2
  go_loopw [4, 5] (fun kv iv wr => ∃ k j : Nat, kv = .int .i64 k ∧ iv = .int .i64 j ∧ 1 ≤ j ∧ (j ≤ l.length ∨ j = 1) ∧ (k < l.length ∨ l.length = 0) ∧ k = leastS l j ∧ Below w.heap.size w wr) (fun _ i _ => l.length + 1 - (intOf i).toNat)
  case atStart => exact ⟨0, 1, rfl, rfl, Nat.le_refl _, Or.inr rfl, by omega, (leastS_one l).symm, Below.refl _ _⟩
  case round =>
    obtain ⟨k, j, rfl, rfl, hj, hj2, hk, hkl, hbel⟩ := hrel
    have HK := hid hkl
    clear hkl
    by_cases hlt : j < l.length
    · obtain ⟨b, off, rfl, hb, hr⟩ := (hE.resolve_left (fun e => by rw [e] at hlt; simp at hlt))
      clear hE
      have hk' : k < l.length := by omega
      have hr' := hr.below hb hbel
      have hbr : b < wr.heap.size := Nat.lt_of_lt_of_le hb hbel.size
      have hbr1 : b < wr.heap.size + 1 := by omega
      obtain ⟨h1, h2⟩ := hr' j hlt
      obtain ⟨h3, h4⟩ := hr' k hk'
      clear hr hr' hk
      generalize hx : (ent l j) = x at h1 h2
      generalize hy : (ent l k) = y at h3 h4
      have HX := hid hx
      have HY := hid hy
      clear hx hy
      go_wp2
      go_region_held3 (fun w' => w'.cell? ⟨b, off + j * 2, none⟩ = some (.int .i64 x.1) ∧ w'.cell? ⟨b, off + j * 2 + 1, none⟩ = some (.int .i64 x.2) ∧ w'.cell? ⟨b, off + k * 2, none⟩ = some (.int .i64 y.1) ∧ w'.cell? ⟨b, off + k * 2 + 1, none⟩ = some (.int .i64 y.2)) (simp [go_sem, hbr, hbr1, h1, h2, h3, h4])
        (first | (go_at_call 18; refine (refBefore_any _ _ _ _ _).mono ?_; rintro e w' ⟨rfl, o1, o2, rfl⟩))
      rename_i hH
      clear hH h1 h2 h3 h4 hbr hbr1
      have BL := hid (below_a1 (below_a1 hbel (Nat.le_refl _) (.cells o1 26)) (Nat.le_refl _) (.cells o2 26)).drew
      clear hbel
      generalize hb2 : bef x.1 x.2 y.1 y.2 = r
      cases r
      · go_wp2
        go_roundw
        case rel => exact ⟨k, j + 1, rfl, by go_num, by omega, Or.inl (by omega), Or.inl hk', by rw [leastS_no (by rw [← HK.out, HX.out, HY.out]; exact hb2)]; exact HK.out, BL.out⟩
        case measure => simp [intOf]; omega
      · go_wp2
        go_roundw
        case rel => exact ⟨j, j + 1, rfl, by go_num, by omega, Or.inl (by omega), Or.inl hlt, (leastS_yes (by rw [← HK.out, HX.out, HY.out]; exact hb2)).symm, BL.out⟩
        case measure => simp [intOf]; omega
    · have BL := hid hbel
      clear hbel hE
      have e : leastS l l.length = k := by
        rw [HK.out]
        rcases hj2 with h | h
        · rw [show j = l.length by omega]
        · by_cases e0 : l.length = 0
          · rw [e0, h, leastS_one]; rfl
          · rw [h, show l.length = 1 by omega]
      have E := hid e
      clear e
      go_wp2
      go_ret2
      refine ⟨ret_ib (by rw [E.out]) ?_, BL.out⟩
      simp

end Go.Proofs.Ytjjahhiaelaocaa
