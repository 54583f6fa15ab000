/- The pool of texts: how it lies in memory; the walks of find and Len. -/
import Derived.Test.YtliabapopgeieaaSt
namespace Go.Proofs.Ytliabapopgeieaa
open Go.ChangeShapes Go.WideShapes Go.ChangeAt Go.RowKit

def plT (x : ByteArray × Nat × Bool) : List Value := [.string x.1] ++ [.int .i64 x.2.1, .bool x.2.2]
theorem plT_len : ∀ x, (plT x).length = 3 := fun _ => rfl
theorem plT_one : ∀ x, ∀ v ∈ plT x, v.oneCell' = true := fun x v h => by
  simp [plT] at h
  rcases h with rfl | rfl | rfl <;> rfl

/-- a pool of texts in memory -/
structure RawT (w : World) (pa : Nat) (uv bv : Value) (s : St ByteArray) : Prop where
  blk : w.heap[pa]? = some (.cells #[.int .i64 s.most, uv, bv] 78 (0, 0))
  used : w.ownsRow 0 81 3 uv s.pl.length (row plT s.pl)
  back : w.ownsRow 0 3 1 bv s.back.length (row nat1 s.back)

theorem RawT.cells {w : World} {pa : Nat} {uv bv : Value} {s : St ByteArray} (h : RawT w pa uv bv s) : pa < w.heap.size ∧ w.cell? ⟨pa, 0, none⟩ = some (.int .i64 s.most) ∧ w.cell? ⟨pa, 1, none⟩ = some uv ∧ w.cell? ⟨pa, 2, none⟩ = some bv :=
  ⟨lt_of_block h.blk, blk_cell h.blk rfl, blk_cell h.blk rfl, blk_cell h.blk rfl⟩

/-- one place, its cells -/
theorem RawT.place {w : World} {pa : Nat} {uv bv : Value} {s : St ByteArray} (h : RawT w pa uv bv s) {i : Nat} {x : ByteArray × Nat × Bool} (hx : s.pl[i]? = some x) :
    ∃ g cap, uv = .slice (some ⟨g, 0, none⟩) s.pl.length cap ∧ g < w.heap.size ∧ i < s.pl.length ∧ (∀ j, w.frozen? ⟨g, j, none⟩ = false) ∧ ∀ j, j < 3 → w.cell? ⟨g, i * 3 + j, none⟩ = (plT x)[j]? := by
  have hi : i < s.pl.length := (List.getElem?_eq_some_iff.1 hx).1
  obtain ⟨g, cap, rfl, _, hg⟩ := h.used.form (by omega)
  refine ⟨g, cap, rfl, hg, hi, fun j => h.used.frozenAt j, fun j hj => ?_⟩
  rw [h.used.cellAt (i * 3 + j) (by omega), row_get plT_len s.pl i j x hx hj]

set_option maxHeartbeats 2000000 in
theorem findT (pa : Nat) (s : St ByteArray) (uv bv : Value) (a g : Int) (w : World) (h : RawT w pa uv bv s) :
    Calls Try.prog 37 #[.pointer (some ⟨pa, 0, none⟩), .agg #[.int .i64 a, .int .i64 g]] w fun e w' => Below w.heap.size w w' ∧
      ∃ p, e = .returned (.tuple #[.pointer p, .int .i64 (lookS s.pl a g)]) ∧ (lookS s.pl a g = 0 → ∃ b cap, uv = .slice (some ⟨b, 0, none⟩) s.pl.length cap ∧ p = some ⟨b, a.toNat * 3, none⟩) := by
  obtain ⟨hpa, h0, h1, h2⟩ := h.cells
  by_cases c1 : a < 0
  · have H := hid (lookS_neg (l := s.pl) (g := g) c1)
    go_enter Try.func37, Try.ntmps37
    go_wp2_with fail
    go_quiet (fail)
    go_wp2
    go_ret2
    exact ⟨below_box _ _, none, ret_pi H.out.symm, fun e => by rw [H.out] at e; cases e⟩
  · have c1' : decide (a < 0) = false := by simp; omega
    obtain ⟨ua, uc, rfl⟩ := own_form h.used
    by_cases c2 : (s.pl.length : Int) ≤ a
    · have H := hid (lookS_far (g := g) c2)
      clear c1 h0 h2 h
      generalize s.pl.length = n at *
      go_enter Try.func37, Try.ntmps37
      go_wp2_with fail
      go_quiet (fail)
      go_wp2
      go_ret2
      exact ⟨below_box _ _, none, ret_pi H.out.symm, fun e => by rw [H.out] at e; cases e⟩
    · have hn1 : a.toNat < s.pl.length := by omega
      have c2' : decide ((s.pl.length : Int) ≤ a) = false := by simp; omega
      have hx : s.pl[a.toNat]? = some s.pl[a.toNat] := List.getElem?_eq_getElem hn1
      obtain ⟨b, cap, e, hb, _, hf, hc⟩ := h.place hx
      have HX := hid hx
      generalize s.pl[a.toNat] = x at hc HX
      cases e
      have a0 : 0 ≤ a := by omega
      have HP := hid a0
      have k1 : w.cell? ⟨b, a.toNat * 3 + 1, none⟩ = some (.int .i64 x.2.1) := hc 1 (by omega)
      have k2 : w.cell? ⟨b, a.toNat * 3 + 2, none⟩ = some (.bool x.2.2) := hc 2 (by omega)
      have a1 : a < (s.pl.length : Int) := by omega
      clear hc c1 c2 hx hf h2 h0 h hn1
      by_cases c3 : g < 1
      · have H := hid (lookS_low HP.out HX.out c3)
        clear k1 k2 HX a0 a1
        generalize s.pl.length = n at *
        go_enter Try.func37, Try.ntmps37
        go_wp2_with fail
        go_quiet (fail)
        go_wp2
        go_ret2
        exact ⟨below_box _ _, none, ret_pi H.out.symm, fun e => by rw [H.out] at e; cases e⟩
      · have c3' : decide (g < 1) = false := by simp; omega
        by_cases c4 : (x.2.1 : Int) < g
        · have H := hid (lookS_high HP.out HX.out c4)
          clear k2 c3 HX
          generalize s.pl.length = n at *
          go_enter Try.func37, Try.ntmps37
          go_wp2_with fail
          go_quiet (fail)
          go_wp2
          go_ret2
          exact ⟨below_box _ _, none, ret_pi H.out.symm, fun e => by rw [H.out] at e; cases e⟩
        · have c4' : decide ((x.2.1 : Int) < g) = false := by simp; omega
          by_cases c5 : g < (x.2.1 : Int)
          · have H := hid (lookS_over (g := g) HP.out HX.out (by omega) c5)
            clear c3 c4 HX
            generalize s.pl.length = n at *
            go_enter Try.func37, Try.ntmps37
            go_wp2_with fail
            go_quiet (fail)
            go_wp2_with fail
            go_quiet (fail)
            go_wp2_with fail
            go_quiet (fail)
            go_wp2
            go_ret2
            exact ⟨below_drewN (below_drewN (below_box _ _) _) _, none, ret_pi H.out.symm, fun e => by rw [H.out] at e; cases e⟩
          · have c5' : decide (g < (x.2.1 : Int)) = false := by simp; omega
            cases ht : x.2.2 with
            | false =>
              have H := hid (lookS_free (g := g) HP.out HX.out (by omega) (by omega) ht)
              rw [ht] at k2
              clear c3 c4 c5 ht HX
              generalize s.pl.length = n at *
              go_enter Try.func37, Try.ntmps37
              go_wp2_with fail
              go_quiet (fail)
              go_wp2_with fail
              go_quiet (fail)
              go_wp2_with fail
              go_quiet (fail)
              go_wp2
              go_ret2
              exact ⟨below_drewN (below_drewN (below_box _ _) _) _, none, ret_pi H.out.symm, fun e => by rw [H.out] at e; cases e⟩
            | true =>
              have H := hid (lookS_ok (g := g) HP.out HX.out (by omega) (by omega) ht)
              rw [ht] at k2
              clear c3 c4 c5 ht HX
              generalize s.pl.length = n at *
              go_enter Try.func37, Try.ntmps37
              go_wp2_with fail
              go_quiet (fail)
              go_wp2_with fail
              go_quiet (fail)
              go_wp2_with fail
              go_quiet (fail)
              go_wp2
              go_ret2
              exact ⟨below_drewN (below_drewN (below_box _ _) _) _, _, ret_pi H.out.symm, fun _ => ⟨b, _, rfl, rfl⟩⟩

set_option maxHeartbeats 1000000 in
theorem lenT (pa : Nat) (s : St ByteArray) (uv bv : Value) (w : World) (h : RawT w pa uv bv s) (hl : s.back.length ≤ s.pl.length) (hm : s.pl.length ≤ 1000000) :
    Calls Try.prog 20 #[.pointer (some ⟨pa, 0, none⟩)] w fun e w' => e = .returned (.int .i64 ((s.pl.length - s.back.length : Nat) : Int)) ∧ ∃ n, w' = w.drewN n := by
  obtain ⟨hpa, h0, h1, h2⟩ := h.cells
  obtain ⟨ua, uc, rfl⟩ := own_form h.used
  obtain ⟨ba, bc, rfl⟩ := own_form h.back
  clear h
  go_enter Try.func20, Try.ntmps20
  go_wp2_with fail
  go_quiet (fail)
  go_wp2
  go_ret
  exact ⟨ret_int (by omega), _, rfl⟩
end Go.Proofs.Ytliabapopgeieaa
