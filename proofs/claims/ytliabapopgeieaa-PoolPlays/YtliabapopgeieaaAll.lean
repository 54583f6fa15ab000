/- All of either pool, and how two answers are compared. -/
import Derived.Test.YtliabapopgeieaaRg
namespace Go.Proofs.Ytliabapopgeieaa
open Go.ChangeShapes Go.WideShapes Go.ChangeAt Go.RowKit

/-- those of l that are taken, the first of them at place i -/
def allF {α : Type} : Nat → List (α × Nat × Bool) → List (Nat × Nat)
  | _, [] => []
  | i, x :: r => if x.2.2 = true then (i, x.2.1) :: allF (i + 1) r else allF (i + 1) r
theorem allF_append {α : Type} : ∀ (l m : List (α × Nat × Bool)) (i : Nat), allF i (l ++ m) = allF i l ++ allF (i + l.length) m
  | [], m, i => by simp [allF]
  | x :: r, m, i => by
    simp only [List.cons_append, allF, allF_append r m (i + 1), List.length_cons]
    have e : i + 1 + r.length = i + (r.length + 1) := by omega
    rw [e]
    split <;> rfl
/-- by rising place -/
def allS {α : Type} (l : List (α × Nat × Bool)) : List (Nat × Nat) := allF 0 l
theorem allS_take {α : Type} {l : List (α × Nat × Bool)} {k : Nat} {x : α × Nat × Bool} (h : l[k]? = some x) : allS (l.take (k + 1)) = allS (l.take k) ++ (if x.2.2 = true then [(k, x.2.1)] else []) := by
  unfold allS
  have hk : k < l.length := (List.getElem?_eq_some_iff.1 h).1
  rw [List.take_add_one, h, allF_append]
  simp only [Option.toList_some, allF, List.length_take, Nat.zero_add]
  rw [Nat.min_eq_left (by omega)]
theorem allF_len {α : Type} : ∀ (l : List (α × Nat × Bool)) (i : Nat), (allF i l).length ≤ l.length
  | [], i => by simp [allF]
  | x :: r, i => by
    have := allF_len r (i + 1)
    simp only [allF]
    split <;> simp <;> omega

set_option maxHeartbeats 2000000 in
theorem allR (pa : Nat) (s : St Int) (F : Nat → Prop) (w : World) (h : IsR w F pa s) (hm : s.pl.length ≤ 100000) :
    Calls Try.prog 31 #[.pointer (some ⟨pa, 0, none⟩)] w fun e w' => ∃ v, e = .returned v ∧ w'.ownsRow w.heap.size 25 2 v (allS s.pl).length (row ref2 (allS s.pl)) ∧ Below w.heap.size w w' := by
  obtain ⟨gv, iv, vv, bv, hr, -⟩ := h
  obtain ⟨hpa, -, h1, h2, -, -⟩ := hr.cells
  obtain ⟨ga, gc, rfl⟩ := own_form hr.gens
  have HR := hid hr
  obtain ⟨ti, hti, hz0, hz1, hz2⟩ := info_parts info25
  have HT := hid hti
  have Z0 := hid hz0
  have Z1 := hid hz1
  have Z2 := hid hz2
  clear hr hti hz0 hz1 hz2
  go_enter Try.func31, Try.ntmps31
  go_wp2
  go_loopw [3, 4] (fun ov kv wr => ∃ k : Nat, kv = .int .i64 k ∧ k ≤ s.pl.length ∧ wr.ownsRow w.heap.size 25 2 ov (allS (s.pl.take k)).length (row ref2 (allS (s.pl.take k))) ∧ Below w.heap.size w wr) (fun _ k _ => s.pl.length - (intOf k).toNat)
  case atStart => exact ⟨0, rfl, Nat.zero_le _, ⟨rfl, Or.inl ⟨rfl, rfl⟩⟩, Below.refl _ _⟩
  case round =>
    obtain ⟨k, rfl, hk, hO, hB⟩ := hrel
    have HO := hid hO
    have HB := hid hB
    have e1 := (hB.cell (p := ⟨pa, 1, none⟩) hpa).trans h1
    have e2 := (hB.cell (p := ⟨pa, 2, none⟩) hpa).trans h2
    have hpr : pa < wr.heap.size := Nat.lt_of_lt_of_le hpa hB.size
    by_cases hlt : k < s.pl.length
    · have hx : s.pl[k]? = some s.pl[k] := List.getElem?_eq_getElem hlt
      obtain ⟨b, cap, ee, hb, _, k1⟩ := own1_get gen1_len HR.out.gens hx
      obtain ⟨b2, cap2, ee2, hb2, _, k2⟩ := own1_get in1_len HR.out.ins hx
      generalize s.pl[k] = x at hx k1 k2
      subst ee2
      cases ee
      replace k1 := (hB.cell (p := ⟨b, k, none⟩) hb).trans (show w.cell? ⟨b, k, none⟩ = some (.int .i64 x.2.1) from k1)
      replace k2 := (hB.cell (p := ⟨b2, k, none⟩) hb2).trans (show w.cell? ⟨b2, k, none⟩ = some (.bool x.2.2) from k2)
      have hbr : b < wr.heap.size := Nat.lt_of_lt_of_le hb hB.size
      have hbr2 : b2 < wr.heap.size := Nat.lt_of_lt_of_le hb2 hB.size
      have hlt1 : (k : Int) < (s.pl.length : Int) := by omega
      have HS := hid (allS_take hx)
      have hln : (allS (s.pl.take k)).length ≤ 100000 := by
        have h3 := allF_len (s.pl.take k) 0
        rw [List.length_take] at h3
        have : (allS (s.pl.take k)).length ≤ min k s.pl.length := h3
        omega
      have HLN := hid hln
      cases ht : x.2.2 with
      | false =>
        rw [ht] at k2
        rw [ht] at HS
        clear hB hO hx ht h1 h2 hln
        go_wp2
        go_roundw
        case rel => exact ⟨k + 1, by go_num, by omega, by rw [HS.out]; simpa using HO.out, HB.out⟩
        case measure => simp [intOf]; omega
      | true =>
        rw [ht] at k2
        rw [ht] at HS
        clear hB hO hx ht h1 h2 hln
        go_wp2_with (at_builtin; refine wpList_append_own _ rfl (.tmp 21) (.tmp 31) 38 rfl w.heap.size 25 ti _ 2 16 Try.underlying38 HT.out Z0.out Z1.out Z2.out rfl (by decide) u3 (allS (s.pl.take k)).length (row ref2 (allS (s.pl.take k))) rfl (HO.out.alloc _) ⟨wr.heap.size, 0, none⟩ 1 1 (ref2 (k, x.2.1)) rfl rfl (World.news_of_block (heap_alloc_new wr _)) (ref2_one _) (by have := HLN.out; simp [maxLen]; omega) (by have := HLN.out; omega) (by have := HB.out.size; simp; omega) ?_; intro v' w' ho hg hn; have O1 := hid ho; have B1 := hid ((HB.out.alloc HB.out.size _).grown hg (by have := HB.out.size; simp; omega) (fun k hk => (HO.out.lt k hk).1)); clear ho hg hn)
        go_roundw
        case rel => exact ⟨k + 1, by go_num, by omega, by rw [HS.out]; simp only [if_true, List.length_append, row_append]; simpa [row] using O1.out, B1.out⟩
        case measure => simp [intOf]; omega
    · obtain rfl : k = s.pl.length := by omega
      clear hlt hO hB
      go_wp2
      go_ret
      exact ⟨_, rfl, by have := HO.out; rwa [List.take_length] at this, HB.out⟩
end Go.Proofs.Ytliabapopgeieaa
