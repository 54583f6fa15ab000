/- The walks of the books' Within, Roomy and Intact, as the laws of layer 1 call them. -/
import Derived.Test.YtjjahhiaelaocaaLis
namespace Go.Proofs.Ytjjahhiaelaocaa
open Go.ChangeShapes Go.WideShapes Go.ChangeAt Go.RowKit

theorem tmod_i64 {n k : Int} (hk : 0 < k) (hk' : k ≤ 1000000) : -1000000 ≤ n.tmod k ∧ n.tmod k ≤ 1000000 := by
  have h1 := Int.tmod_lt_of_pos n hk
  have h2 : -k < n.tmod k := by
    have := Int.tmod_lt_of_pos (-n) hk
    rw [Int.neg_tmod] at this
    omega
  omega

set_option maxHeartbeats 1000000 in
theorem within_any (n : Int) (hn : I64 n) (w : World) :
    Calls Try.prog 12 #[.int .i64 n, .int .i64 0, .int .i64 1000] w fun e w' => ∃ r, e = .returned (.int .i64 r) ∧ I64 r ∧ w' = w := by
  obtain ⟨h1, h2⟩ := hn
  by_cases c1 : 0 ≤ n
  · by_cases c2 : n ≤ 1000
    · go_enter Try.func12, Try.ntmps12
      go_wp2
      go_ret
      exact ⟨n, rfl, ⟨h1, h2⟩, rfl⟩
    · have c3 : ¬ n % 1001 < 0 := by omega
      go_enter Try.func12, Try.ntmps12
      go_wp2
      go_ret
      exact ⟨n % 1001, rfl, ⟨by omega, by omega⟩, rfl⟩
  · obtain ⟨t1, t2⟩ := tmod_i64 (n := n) (k := 1001) (by decide) (by decide)
    by_cases c3 : n.tmod 1001 < 0
    · go_enter Try.func12, Try.ntmps12
      go_wp2
      go_ret
      exact ⟨_, rfl, ⟨by omega, by omega⟩, rfl⟩
    · go_enter Try.func12, Try.ntmps12
      go_wp2
      go_ret
      exact ⟨_, rfl, ⟨by omega, by omega⟩, rfl⟩

theorem flat_zeros : ∀ k : Nat, flat (List.replicate k (0, 0)) = List.replicate (k * 2) (.int .i64 0)
  | 0 => rfl
  | k + 1 => by
    rw [List.replicate_succ, show (k + 1) * 2 = k * 2 + 1 + 1 by omega, List.replicate_succ, List.replicate_succ]
    show _ :: _ :: flat _ = _
    rw [flat_zeros k]
theorem made_zeros (N : Nat) : (madeCells (Value.agg #[.int .i64 0, .int .i64 0]).cells N).toList = List.replicate N (.int .i64 0) := by
  apply List.ext_getElem
  · simp [madeCells]
  · intro i h1 h2
    simp [madeCells, Value.cells]
    rcases Nat.mod_two_eq_zero_or_one i with e | e <;> rw [e] <;> rfl
theorem flat_drop : ∀ (k : Nat) (l : List (Int × Int)), (flat l).drop (k * 2) = flat (l.drop k)
  | 0, l => by simp
  | k + 1, [] => by simp [flat]
  | k + 1, x :: r => by
    rw [show (k + 1) * 2 = k * 2 + 1 + 1 by omega]
    show List.drop (k * 2 + 1 + 1) (_ :: _ :: flat r) = _
    rw [List.drop_succ_cons, List.drop_succ_cons, flat_drop k r]
    rfl

/-- make and copy, with 80 places more -/
theorem roomy_make (w : World) (a : Option Addr) (cap : Nat) (l : List (Int × Int)) (ty : TypeId) (hl : l.length ≤ 1000) (hE : Ents w a l) :
    ∃ w1 w2, (Instr.makeSlice 27 (.int .i64 ((l.length : Int) + 80)) (.int .i64 ((l.length : Int) + 80))).run Try.prog w = .ok (.slice (some ⟨w.heap.size, 0, none⟩) (l.length + 80) (l.length + 80)) w1 ∧
      (Builtin.copy_ #[27, 27] ty #[.slice (some ⟨w.heap.size, 0, none⟩) (l.length + 80) (l.length + 80), .slice a l.length cap]).run Try.prog w1 = .ok (goInt l.length) w2 ∧
      Own w2 w.heap.size 0 (l ++ List.replicate 80 (0, 0)) ∧ Below w.heap.size w w2 := by
  obtain ⟨i, hi, h0, h1, h2⟩ := info_parts info26
  have hsz : (Try.prog.info? 26).map (·.size) = some 2 := by rw [hi]; simp [h1]
  have hr := run_make (P := Try.prog) w 27 26 i (.agg #[.int .i64 0, .int .i64 0]) Try.underlying27 hi h0 .i64 .i64 ((l.length : Int) + 80) ((l.length : Int) + 80) (by omega) (Int.le_refl _) (by rw [h2]; omega) (by omega)
  have ht : ((l.length : Int) + 80).toNat = l.length + 80 := by omega
  rw [ht, h1] at hr
  have hcur := made_zeros ((l.length + 80) * 2)
  rw [← flat_zeros] at hcur
  generalize madeCells (Value.agg #[Value.int IntKind.i64 0, Value.int IntKind.i64 0]).cells ((l.length + 80) * 2) = cur at hr hcur
  have hg : (w.alloc (.cells cur 26)).heap[w.heap.size]? = some (.cells cur 26 (0, 0)) := (MapKept.heap_alloc w _).1
  have hb : Below w.heap.size w (w.alloc (.cells cur 26)) := (Below.refl _ _).alloc (Nat.le_refl _) _
  have hcs : cur.size = (l.length + 80) * 2 := by rw [← Array.length_toList, hcur, flat_length]; simp
  rcases hE with rfl | ⟨b, off, rfl, hbl, hrow⟩
  · refine ⟨_, _, hr, run_copy_two_none _ 27 27 ty 26 _ _ _ _ _ _ Try.underlying27 hsz (by simp), ?_, hb⟩
    refine own_of_block hg ?_
    rw [hcur, List.take_of_length_le (by rw [flat_length]; simp)]
    simp
  · have hr1 := hrow.below hbl hb
    have hrun := run_copy_two (P := Try.prog) (w.alloc (.cells cur 26)) 27 27 ty 26 w.heap.size 0 (l.length + 80) (l.length + 80) ⟨b, off, none⟩ l.length cap l.length cur 26 (flat l) Try.underlying27 hsz hg (by simp) (flat_length l) (fun j v h => hr1.src j v h) (by rw [flat_length]; omega) (flat_one l)
    refine ⟨_, _, hr, hrun, ?_, hb.trans ⟨rfl, rfl, rfl, by simp, fun k hk => setRow_other _ _ k _ (by omega)⟩⟩
    refine own_of_block (setRow_heap _ _ cur _ 26 (0, 0) hg) ?_
    have e1 : cur.toList.drop (0 + (flat l).length) = flat (List.replicate 80 (0, 0)) := by
      rw [hcur, Nat.zero_add, flat_length, flat_drop]
      simp
    rw [e1, flat_append, List.take_of_length_le]
    · simp
    · simp only [flat_length, List.length_append, List.length_replicate, List.take_zero, List.nil_append]; omega

/-- a row that holds l first, and has 80 places more, the first of them up to i marked -/
structure Marked (l c : List (Int × Int)) (mark : Int × Int) (i : Nat) : Prop where
  len : c.length = l.length + 80
  lo : ∀ q, q < l.length → ent c q = ent l q
  hi : ∀ q, l.length ≤ q → q < i → ent c q = mark

theorem Marked.step {l c : List (Int × Int)} {mark : Int × Int} {i : Nat} (h : Marked l c mark i) (hi : l.length ≤ i) (hi' : i < l.length + 80) : Marked l (c.set i mark) mark (i + 1) := by
  refine ⟨by rw [List.length_set, h.len], fun q hq => ?_, fun q h1 h2 => ?_⟩
  · rw [ent_set_other (by omega)]; exact h.lo q hq
  · by_cases e : i = q
    · subst e; rw [ent_set_same (by rw [h.len]; omega)]
    · rw [ent_set_other e]; exact h.hi q h1 (by omega)

theorem Own.put0 {w : World} {g : Nat} {l : List (Int × Int)} (h : Own w g 0 l) {j : Nat} (hj : j < l.length) (x : Int × Int) : Own ((w.setCell ⟨g, j * 2, none⟩ (.int .i64 x.1)).setCell ⟨g, j * 2 + 1, none⟩ (.int .i64 x.2)) g 0 (l.set j x) := by
  have := h.put hj x
  unfold put2 at this
  rw [Nat.zero_add] at this
  exact this
theorem cset_far {w : World} {g b p q : Nat} {v : Value} (h : g ≠ b) : (w.setCell ⟨g, p, none⟩ v).cell? ⟨b, q, none⟩ = w.cell? ⟨b, q, none⟩ := by
  have h' : (⟨g, p, none⟩ : Addr) ≠ ⟨b, q, none⟩ := fun e => h (by injection e)
  rw [World.cell?_setCell_other (h := h')]

set_option maxHeartbeats 1000000 in
theorem roomy_any (a : Option Addr) (cap : Nat) (l : List (Int × Int)) (k : Int × Int) (w : World) (hl : l.length ≤ 1000) (hE : Ents w a l) :
    Calls Try.prog 11 #[.slice a l.length cap, .agg #[.int .i64 k.1, .int .i64 k.2]] w fun e w' => ∃ g, e = .returned (.slice (some ⟨g, 0, none⟩) (l.length + 80) (l.length + 80)) ∧ ∃ c, Marked l c k (l.length + 80) ∧ Own w' g 0 c ∧ w.heap.size ≤ g ∧ Below w.heap.size w w' := by
  have hE1 : Ents (w.alloc (.cells #[.int .i64 k.1, .int .i64 k.2] 26)) a l := hE.below (Nat.le_refl _) (below_a1 (Below.refl _ _) (Nat.le_refl _) _)
  obtain ⟨w1, w2, hmk, hcp, h4, h5⟩ := roomy_make _ a cap l 3 hl hE1
  have hsz : (w.alloc (.cells #[.int .i64 k.1, .int .i64 k.2] 26)).heap.size = w.heap.size + 1 := by simp
  rw [hsz] at hmk hcp h4 h5
  have hk1 : w2.cell? ⟨w.heap.size, 0, none⟩ = some (.int .i64 k.1) := (h5.cell (p := ⟨w.heap.size, 0, none⟩) (by simp)).trans (by simp)
  have hk2 : w2.cell? ⟨w.heap.size, 1, none⟩ = some (.int .i64 k.2) := (h5.cell (p := ⟨w.heap.size, 1, none⟩) (by simp)).trans (by simp)
  have OW := hid h4
  have BL := hid h5
  clear h4 h5 hE hE1 hsz
  go_enter Try.func11, Try.ntmps11
  go_wp2
  go_loopw [6] (fun iv wr => ∃ (j : Nat) (c : List (Int × Int)), iv = .int .i64 j ∧ l.length ≤ j ∧ j ≤ l.length + 80 ∧ Marked l c k j ∧ Own wr (w.heap.size + 1) 0 c ∧ wr.cell? ⟨w.heap.size, 0, none⟩ = some (.int .i64 k.1) ∧ wr.cell? ⟨w.heap.size, 1, none⟩ = some (.int .i64 k.2) ∧ Below w.heap.size w wr) (fun i _ => l.length + 80 - (intOf i).toNat)
  case atStart => exact ⟨l.length, _, rfl, Nat.le_refl _, by omega, ⟨by simp, fun q hq => ent_append_left hq, fun q h1 h2 => by omega⟩, OW.out, hk1, hk2, (below_a1 (Below.refl _ _) (Nat.le_refl _) _).trans (BL.out.mono (by omega))⟩
  case round =>
    clear OW BL hk1 hk2 hmk hcp w1 w2
    obtain ⟨j, c, rfl, hj1, hj2, hM, hown, hk1, hk2, hbel⟩ := hrel
    have HM := hid hM
    have OW := hid hown
    have BL := hid hbel
    have fz := hown.fz
    have hlt1 := hown.lt
    by_cases hlt : j < l.length + 80
    · have hlti : (j : Int) < (l.length : Int) + 80 := by omega
      obtain ⟨c1, c2⟩ := hown.row j (by rw [hM.len]; exact hlt)
      rw [Nat.zero_add] at c1 c2
      clear hM hown hbel
      go_wp2
      go_roundw
      case rel =>
        refine ⟨j + 1, c.set j k, by go_num, by omega, by omega, HM.out.step hj1 hlt, OW.out.put0 (by rw [HM.out.len]; exact hlt) k, ?_, ?_, (BL.out.setCell (p := ⟨_, _, none⟩) (by simp) _).setCell (p := ⟨_, _, none⟩) (by simp) _⟩
        · rw [cset_far (by simp), cset_far (by simp)]; exact hk1
        · rw [cset_far (by simp), cset_far (by simp)]; exact hk2
      case measure => simp [intOf]; omega
    · have hlti : ¬ (j : Int) < (l.length : Int) + 80 := by omega
      have e : j = l.length + 80 := by omega
      have E := hid e
      clear hM hown hbel e
      go_wp2
      go_ret
      have e := E.out
      subst e
      exact ⟨w.heap.size + 1, rfl, c, HM.out, OW.out, by omega, BL.out⟩

theorem Marked.take {l c : List (Int × Int)} {mark : Int × Int} {i : Nat} (h : Marked l c mark i) : c.take l.length = l := by
  apply List.ext_getElem
  · rw [List.length_take, h.len]; omega
  · intro q h1 h2
    have := h.lo q h2
    rw [ent_of_lt (by rw [h.len]; omega), ent_of_lt h2] at this
    rw [List.getElem_take]; exact this

set_option maxHeartbeats 1000000 in
theorem intact_any (g : Nat) (a : Option Addr) (cap : Nat) (l c : List (Int × Int)) (k : Int × Int) (w : World) (hl : l.length ≤ 1000) (hE : Ents w a l) (hM : Marked l c k (l.length + 80)) (ho : Own w g 0 c) :
    Calls Try.prog 13 #[.slice (some ⟨g, 0, none⟩) (l.length + 80) (l.length + 80), .slice a l.length cap, .agg #[.int .i64 k.1, .int .i64 k.2]] w fun e w' => e = .returned (.bool true) ∧ Below w.heap.size w w' := by
  have hE1 : Ents (w.alloc (.cells #[.int .i64 k.1, .int .i64 k.2] 26)) a l := hE.below (Nat.le_refl _) (below_a1 (Below.refl _ _) (Nat.le_refl _) _)
  have ho1 : Own (w.alloc (.cells #[.int .i64 k.1, .int .i64 k.2] 26)) g 0 c := ho.below (B := w.heap.size) ho.lt (below_a1 (Below.refl _ _) (Nat.le_refl _) _)
  have hE2 : Ents (w.alloc (.cells #[.int .i64 k.1, .int .i64 k.2] 26)) (some ⟨g, 0, none⟩) l := by
    have := ho1.row.take l.length
    rw [hM.take] at this
    exact Or.inr ⟨g, 0, rfl, ho1.lt, this⟩
  have HC := hid (same_any (some ⟨g, 0, none⟩) a (l.length + 80) cap l _ (by omega) hE2 hE1)
  have hne : ((l.length : Int) + 80 != (l.length : Int) + 80) = false := by simp
  have OW := hid ho1
  have hM' := hid hM
  clear hE hE1 hE2 ho ho1 hM
  go_enter Try.func13, Try.ntmps13
  go_wp2_with fail
  refine HC.out.mono ?_
  rintro e w1 ⟨rfl, n, rfl⟩
  go_wp2
  go_loopw [7] (fun iv wr => ∃ j n : Nat, iv = .int .i64 j ∧ l.length ≤ j ∧ j ≤ l.length + 80 ∧ wr = (w.alloc (.cells #[.int .i64 k.1, .int .i64 k.2] 26)).drewN n) (fun i _ => l.length + 80 - (intOf i).toNat)
  case atStart => exact ⟨l.length, n, rfl, Nat.le_refl _, by omega, rfl⟩
  case round =>
    obtain ⟨j, n, rfl, hj1, hj2, rfl⟩ := hrel
    by_cases hlt : j < l.length + 80
    · have hlti : (j : Int) < (l.length : Int) + 80 := by omega
      obtain ⟨c1, c2⟩ := OW.out.row j (by rw [hM'.out.len]; exact hlt)
      rw [Nat.zero_add, hM'.out.hi j hj1 hlt] at c1 c2
      have hn : ∀ w, (binOp .neq 26 (.agg #[.int .i64 k.1, .int .i64 k.2]) (.agg #[.int .i64 k.1, .int .i64 k.2])).run Try.prog w = .ok (.bool false) w := fun w => by rw [neq26]; simp
      go_wp2
      go_quiet (fail)
      clear c1 c2 hn
      go_wp2
      go_roundw
      case rel => exact ⟨j + 1, _, by go_num, by omega, by omega, rfl⟩
      case measure => simp [intOf]; omega
    · have hlti : ¬ (j : Int) < (l.length : Int) + 80 := by omega
      go_wp2
      go_ret
      exact ⟨rfl, (below_a1 (Below.refl _ _) (Nat.le_refl _) _).trans (below_drewN _ _)⟩
end Go.Proofs.Ytjjahhiaelaocaa
