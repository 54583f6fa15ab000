/- The walk of the pool's own All, and of the comparing of two lists of Refs. -/
import Derived.Test.YtliabapopgeieaaAll
namespace Go.Proofs.Ytliabapopgeieaa
open Go.ChangeShapes Go.WideShapes Go.ChangeAt Go.RowKit

theorem news1 (W : World) (o : Obj) (cs : Array Value) (t : TypeId) : ∀ j u, cs.toList[j]? = some u → ((W.alloc o).alloc (.cells cs t)).cell? ((⟨W.heap.size + 1, 0, none⟩ : Addr).add j) = some u := by
  have := World.news_of_block (heap_alloc_new (W.alloc o) (.cells cs t))
  simpa using this
theorem make25 (X : World) (n : Nat) (hn : n ≤ 1000000) : ∃ w1, (Instr.makeSlice 38 (.int .i64 0) (.int .i64 (n : Int))).run Try.prog X = .ok (.slice (some ⟨X.heap.size, 0, none⟩) 0 n) w1 ∧ w1.ownsRow X.heap.size 25 2 (.slice (some ⟨X.heap.size, 0, none⟩) 0 n) 0 [] ∧ Below X.heap.size X w1 := by
  obtain ⟨i, hi, h0, h1, h2⟩ := info_parts info25
  have hr := run_make (P := Try.prog) X 38 25 i _ Try.underlying38 hi h0 .i64 .i64 0 (n : Int) (by omega) (by omega) (by rw [h2]; omega) (by omega)
  refine ⟨_, by simpa using hr, World.ownsRow_made (base := X.heap.size) (e := 25) (size := 2) X _ n (Nat.le_refl _) (by simp only [maxLen]; omega) (by rw [size_madeCells, h1]), (Below.refl _ _).alloc (Nat.le_refl _) _⟩

set_option maxHeartbeats 2000000 in
theorem allI (pa : Nat) (s : St Int) (F : Nat → Prop) (w : World) (h : IsI w F pa s) (hm : s.pl.length ≤ 100000) (hbl : s.back.length ≤ s.pl.length) :
    Calls Try.prog 33 #[.pointer (some ⟨pa, 0, none⟩)] w fun e w' => ∃ v, e = .returned v ∧ w'.ownsRow w.heap.size 25 2 v (allS s.pl).length (row ref2 (allS s.pl)) ∧ Below w.heap.size w w' := by
  obtain ⟨uv, bv, hr, -⟩ := h
  obtain ⟨hpa, -, h1, -⟩ := hr.cells
  obtain ⟨ua, uc, rfl⟩ := own_form hr.used
  have HR := hid hr
  obtain ⟨ti, hti, hz0, hz1, hz2⟩ := info_parts info25
  have HT := hid hti
  have Z0 := hid hz0
  have Z1 := hid hz1
  have Z2 := hid hz2
  clear hr hti hz0 hz1 hz2
  go_enter Try.func33, Try.ntmps33
  go_wp2_with fail
  refine (lenI pa s _ _ w HR.out hbl (by omega)).mono ?_
  rintro e w0 ⟨rfl, nd, rfl⟩
  obtain ⟨w1, hmk, ho1, hb1⟩ := make25 (w.drewN nd) (s.pl.length - s.back.length) (by omega)
  have hb1 : Below w.heap.size w w1 := below_drewN (Below.refl w.heap.size w) nd |>.trans hb1
  have O1 := hid ho1
  have B1 := hid hb1
  have d1 := (hb1.cell (p := ⟨pa, 1, none⟩) hpa).trans h1
  have hp1 : pa < w1.heap.size := Nat.lt_of_lt_of_le hpa hb1.size
  clear ho1 hb1
  go_wp2
  go_loopw [3, 14] (fun ov kv wr => ∃ k : Nat, kv = .int .i64 k ∧ k ≤ s.pl.length ∧ wr.ownsRow w.heap.size 25 2 ov (allS (s.pl.take k)).length (row ref2 (allS (s.pl.take k))) ∧ Below w.heap.size w wr) (fun _ k _ => s.pl.length - (intOf k).toNat)
  case atStart => exact ⟨0, rfl, Nat.zero_le _, O1.out, B1.out⟩
  case round =>
    clear hmk O1 B1 d1 hp1
    obtain ⟨k, rfl, hk, hO, hB⟩ := hrel
    have HO := hid hO
    have HB := hid hB
    by_cases hlt : k < s.pl.length
    · have hx : s.pl[k]? = some s.pl[k] := List.getElem?_eq_getElem hlt
      obtain ⟨b, cap, ee, hb, _, _, hc⟩ := HR.out.place hx
      generalize s.pl[k] = x at hx hc
      cases ee
      have k0 := (hB.cell (p := ⟨b, k * 3, none⟩) hb).trans (show w.cell? ⟨b, k * 3, none⟩ = some (.int .i64 x.1) from hc 0 (by decide))
      have k1 := (hB.cell (p := ⟨b, k * 3 + 1, none⟩) hb).trans (show w.cell? ⟨b, k * 3 + 1, none⟩ = some (.int .i64 x.2.1) from hc 1 (by decide))
      have k2 := (hB.cell (p := ⟨b, k * 3 + 2, none⟩) hb).trans (show w.cell? ⟨b, k * 3 + 2, none⟩ = some (.bool x.2.2) from hc 2 (by decide))
      have hbr : b < wr.heap.size := Nat.lt_of_lt_of_le hb hB.size
      have hlt1 : (k : Int) < (s.pl.length : Int) := by omega
      have HS := hid (allS_take hx)
      have hln : (allS (s.pl.take k)).length ≤ 100000 := by
        have h3 := allF_len (s.pl.take k) 0
        rw [List.length_take] at h3
        have : (allS (s.pl.take k)).length ≤ min k s.pl.length := h3
        omega
      have HLN := hid hln
      cases ht : x.2.2 with
      | false =>
        rw [ht] at k2
        rw [ht] at HS
        clear hB hO hx ht h1 hln hc
        go_wp2
        go_roundw
        case rel => exact ⟨k + 1, by go_num, by omega, by rw [HS.out]; simpa using HO.out.alloc _, HB.out.alloc HB.out.size _⟩
        case measure => simp [intOf]; omega
      | true =>
        rw [ht] at k2
        rw [ht] at HS
        clear hB hO hx ht h1 hln hc
        go_wp2_with (at_builtin; refine wpList_append_own _ rfl (.tmp 21) (.tmp 26) 38 rfl w.heap.size 25 ti _ 2 16 Try.underlying38 HT.out Z0.out Z1.out Z2.out rfl (by decide) u3 (allS (s.pl.take k)).length (row ref2 (allS (s.pl.take k))) rfl ((HO.out.alloc _).alloc _) ⟨wr.heap.size + 1, 0, none⟩ 1 1 (ref2 (k, x.2.1)) rfl rfl (news1 wr _ #[.int .i64 k, .int .i64 x.2.1] 25) (ref2_one _) (by have := HLN.out; simp [maxLen]; omega) (by have := HLN.out; omega) (by have := HB.out.size; simp; omega) ?_; intro v' w' ho hg hn; have O1 := hid ho; have B1 := hid (((HB.out.alloc HB.out.size _).alloc (by have := HB.out.size; simp; omega) _).grown hg (by have := HB.out.size; simp; omega) (fun k hk => (HO.out.lt k hk).1)); clear ho hg hn)
        go_roundw
        case rel => exact ⟨k + 1, by go_num, by omega, by rw [HS.out]; simp only [if_true, List.length_append, row_append]; simpa [row] using O1.out, B1.out⟩
        case measure => simp [intOf]; omega
    · obtain rfl : k = s.pl.length := by omega
      clear hlt hO hB
      go_wp2
      go_ret
      exact ⟨_, rfl, by have := HO.out; rwa [List.take_length] at this, HB.out⟩

/-- the cells of a list of Refs, wherever it lies -/
theorem refs_at {w : World} {base : Nat} {v : Value} {l : List (Nat × Nat)} (h : w.ownsRow base 25 2 v l.length (row ref2 l)) {i : Nat} {x : Nat × Nat} (hx : l[i]? = some x) :
    ∃ g cap, v = .slice (some ⟨g, 0, none⟩) l.length cap ∧ g < w.heap.size ∧ w.cell? ⟨g, i * 2, none⟩ = some (.int .i64 x.1) ∧ w.cell? ⟨g, i * 2 + 1, none⟩ = some (.int .i64 x.2) := by
  have hi : i < l.length := (List.getElem?_eq_some_iff.1 hx).1
  obtain ⟨g, cap, rfl, _, hg⟩ := h.form (by omega)
  refine ⟨g, cap, rfl, hg, ?_, ?_⟩
  · rw [h.cellAt (i * 2) (by omega)]
    have := row_get ref2_len l i 0 x hx (by decide)
    simpa [ref2] using this
  · rw [h.cellAt (i * 2 + 1) (by omega)]
    have := row_get ref2_len l i 1 x hx (by decide)
    simpa [ref2] using this

set_option maxHeartbeats 1000000 in
theorem sameI (v1 v2 : Value) (b1 b2 : Nat) (l : List (Nat × Nat)) (w : World) (hl : l.length ≤ 1000000) (hE1 : w.ownsRow b1 25 2 v1 l.length (row ref2 l)) (hE2 : w.ownsRow b2 25 2 v2 l.length (row ref2 l)) :
    Calls Try.prog 32 #[v1, v2] w fun e w' => e = .returned (.bool true) ∧ ∃ n, w' = w.drewN n := by
  obtain ⟨a1, c1, rfl⟩ := own_form hE1
  obtain ⟨a2, c2, rfl⟩ := own_form hE2
  have hne : ((l.length : Int) != (l.length : Int)) = false := by simp
  have E1 := hid hE1
  have E2 := hid hE2
  clear hE1 hE2
  go_enter Try.func32, Try.ntmps32
  go_wp2
  go_loopw [5] (fun iv wr => ∃ j n : Nat, iv = .int .i64 j ∧ j ≤ l.length ∧ wr = w.drewN n) (fun i _ => l.length - (intOf i).toNat)
  case atStart => exact ⟨0, 0, rfl, Nat.zero_le _, rfl⟩
  case round =>
    obtain ⟨j, n, rfl, hj, rfl⟩ := hrel
    clear hne
    by_cases hlt : j < l.length
    · have hx : l[j]? = some l[j] := List.getElem?_eq_getElem hlt
      obtain ⟨g1, d1, e1, hg1, p0, p1⟩ := refs_at E1.out hx
      obtain ⟨g2, d2, e2, hg2, q0, q1⟩ := refs_at E2.out hx
      cases e1
      cases e2
      generalize l[j] = x at hx p0 p1 q0 q1
      have hn := fun w => neq25 (x.1, x.2) (x.1, x.2) w
      have hlt1 : (j : Int) < (l.length : Int) := by omega
      clear hx
      go_wp2_with fail
      go_quiet (fail)
      clear hn p0 p1 q0 q1
      go_wp2
      go_roundw
      case rel => exact ⟨j + 1, _, by go_num, by omega, rfl⟩
      case measure => simp [intOf]; omega
    · go_wp2
      go_ret
      exact ⟨rfl, n, rfl⟩
end Go.Proofs.Ytliabapopgeieaa
