/- The walk of the library's insertion sort over a row of entries that the caller owns. -/
import Derived.Test.YtjjahhiaelaocaaOrd
import Derived.BigRegion
import Derived.Deep.QuietTactic
import Derived.BigQuiet
namespace Go.Proofs.Ytjjahhiaelaocaa
open Go.ChangeShapes Go.WideShapes Go.ChangeAt Go.RowKit

/-- block g holds from cell off on the entries of l, and may be written -/
structure Own (w : World) (g off : Nat) (l : List (Int × Int)) : Prop where
  lt : g < w.heap.size
  row : Row w g off l
  fz : ∀ o, w.frozen? ⟨g, o, none⟩ = false

theorem Own.below {B : Nat} {w w' : World} {g off : Nat} {l : List (Int × Int)} (h : Own w g off l) (hb : g < B) (k : Below B w w') : Own w' g off l :=
  ⟨Nat.lt_of_lt_of_le h.lt k.size, h.row.below hb k, fun o => (k.frozen (p := ⟨g, o, none⟩) hb).trans (h.fz o)⟩

/-- a draw ahead of it tells nothing -/
theorem below_undrew {B : Nat} {w w' : World} (h : Below B w.drew w') : Below B w w' := ⟨h.os, h.tape, h.output, h.size, h.block⟩

/-- the world with the entry x laid at place j -/
def put2 (w : World) (g off j : Nat) (x : Int × Int) : World := (w.setCell ⟨g, off + j * 2, none⟩ (.int .i64 x.1)).setCell ⟨g, off + j * 2 + 1, none⟩ (.int .i64 x.2)

theorem cset_same {w : World} {a : Addr} {u v : Value} (h : w.cell? a = some u) : (w.setCell a v).cell? a = some v := by
  rw [World.cell?_setCell_same (h := h)]
theorem cset_other {w : World} {g p q : Nat} {v : Value} (h : p ≠ q) : (w.setCell ⟨g, p, none⟩ v).cell? ⟨g, q, none⟩ = w.cell? ⟨g, q, none⟩ := by
  have h' : (⟨g, p, none⟩ : Addr) ≠ ⟨g, q, none⟩ := fun e => h (by injection e)
  rw [World.cell?_setCell_other (h := h')]

theorem Own.put {w : World} {g off : Nat} {l : List (Int × Int)} (h : Own w g off l) {j : Nat} (hj : j < l.length) (x : Int × Int) : Own (put2 w g off j x) g off (l.set j x) := by
  refine ⟨by simp [put2, h.lt], fun i hi => ?_, fun o => by simp [put2, h.fz o]⟩
  rw [List.length_set] at hi
  obtain ⟨c1, c2⟩ := h.row i hi
  unfold put2
  by_cases e : j = i
  · subst e
    rw [ent_set_same hj]
    exact ⟨(cset_other (by omega)).trans (cset_same c1), cset_same ((cset_other (by omega)).trans c2)⟩
  · rw [ent_set_other e]
    exact ⟨(cset_other (by omega)).trans ((cset_other (by omega)).trans c1), (cset_other (by omega)).trans ((cset_other (by omega)).trans c2)⟩
theorem Below.put {B : Nat} {a w : World} (h : Below B a w) {g : Nat} (hg : B ≤ g) (off j : Nat) (x : Int × Int) : Below B a (put2 w g off j x) := (h.setCell (p := ⟨g, _, none⟩) hg _).setCell (p := ⟨g, _, none⟩) hg _
theorem Own.drew {w : World} {g off : Nat} {l : List (Int × Int)} (h : Own w g off l) : Own w.drew g off l := ⟨h.lt, h.row, h.fz⟩
/-- two entries exchanged, as the walk lays them -/
theorem Own.swp {w : World} {g off : Nat} {l : List (Int × Int)} (h : Own w g off l) {i j : Nat} {x y : Int × Int} (hi : i < l.length) (hj : j < l.length) (hx : ent l j = x) (hy : ent l i = y) :
    Own ((((w.setCell ⟨g, off + j * 2, none⟩ (.int .i64 y.1)).setCell ⟨g, off + j * 2 + 1, none⟩ (.int .i64 y.2)).setCell ⟨g, off + i * 2, none⟩ (.int .i64 x.1)).setCell ⟨g, off + i * 2 + 1, none⟩ (.int .i64 x.2)).drew g off (swp l j i) := by
  subst hx; subst hy
  exact ((h.put hj _).put (by simpa using hi) _).drew
theorem below_swp {B : Nat} {a w : World} (h : Below B a w) {g : Nat} (hg : B ≤ g) (o1 o2 o3 o4 : Nat) (v1 v2 v3 v4 : Value) :
    Below B a ((((w.setCell ⟨g, o1, none⟩ v1).setCell ⟨g, o2, none⟩ v2).setCell ⟨g, o3, none⟩ v3).setCell ⟨g, o4, none⟩ v4).drew :=
  ((((h.setCell (p := ⟨g, _, none⟩) hg _).setCell (p := ⟨g, _, none⟩) hg _).setCell (p := ⟨g, _, none⟩) hg _).setCell (p := ⟨g, _, none⟩) hg _).drew

theorem below_drewN {B : Nat} (w : World) (n : Nat) : Below B w (w.drewN n) := ⟨rfl, rfl, rfl, Nat.le_refl _, fun _ _ => rfl⟩

theorem bcell {W w1 : World} (hb : Below W.heap.size W w1) : (∀ b o, b < W.heap.size → w1.cell? ⟨b, o, none⟩ = W.cell? ⟨b, o, none⟩) ∧ (∀ b o, b < W.heap.size → w1.frozen? ⟨b, o, none⟩ = W.frozen? ⟨b, o, none⟩) :=
  ⟨fun b o h => hb.cell (p := ⟨b, o, none⟩) h, fun b o h => hb.frozen (p := ⟨b, o, none⟩) h⟩

set_option maxHeartbeats 1000000 in
theorem ins_any (g off cap a b : Nat) (l : List (Int × Int)) (w : World) (hab : a ≤ b) (hbl : b ≤ l.length) (hl : l.length ≤ 1000000) (ho : Own w g off l) :
    Calls Try.prog 36 #[.slice (some ⟨g, off, none⟩) l.length cap, .int .i64 a, .int .i64 b, .func (.func 19) #[] #[]] w fun e w' =>
      e = .returned (.tuple #[]) ∧ ∃ l', Within a b l l' ∧ SortedOn l' a b ∧ Own w' g off l' ∧ Below g w w' := by
  go_enter Try.func36, Try.ntmps36
  go_wp2
  go_loopw [8] (fun i wr => ∃ (k : Nat) (m : List (Int × Int)), i = .int .i64 k ∧ a + 1 ≤ k ∧ (k ≤ b ∨ k = a + 1) ∧ Within a b l m ∧ SortedOn m a k ∧ Own wr g off m ∧ Below g w wr) (fun i _ => l.length + 2 - (intOf i).toNat)
  case atStart => exact ⟨a + 1, l, by go_num, Nat.le_refl _, Or.inr rfl, Within.refl _ _ _, sortedOn_short (Nat.le_refl _), ho, Below.refl _ _⟩
  case round =>
    obtain ⟨k, m, rfl, hk1, hk2, hw, hs, hown, hbel⟩ := hrel
    by_cases hlt : k < b
    · go_wp2
      go_loopw [9] (fun jv wr => ∃ (j : Nat) (m : List (Int × Int)), jv = .int .i64 j ∧ a ≤ j ∧ j ≤ k ∧ Within a b l m ∧ Ins m a k j ∧ Own wr g off m ∧ Below g w wr) (fun jv _ => (intOf jv).toNat)
      case atStart => exact ⟨k, m, rfl, by omega, Nat.le_refl _, hw, Ins.start hs, hown, hbel⟩
      case round =>
        clear hs hown hbel hw m ho
        obtain ⟨j, m, rfl, hj1, hj2, hw, hs, hown, hbel⟩ := hrel
        by_cases hja : a < j
        · obtain ⟨i, hij⟩ : ∃ i, j = i + 1 := ⟨j - 1, by omega⟩
          have hji : (j : Int) - 1 = (i : Int) := by omega
          have hwi : IntKind.i64.wrap (i : Int) = i := IntWalk.i64_in _ (by omega)
          have hlen := hw.len
          have hjl : j < l.length := by omega
          have hil : i < l.length := by omega
          have HLEN : Hid (m.length = l.length) := hlen
          have HIJ : Hid (j = i + 1) := hij
          obtain ⟨h1, h2⟩ := hown.row j (by omega)
          obtain ⟨h3, h4⟩ := hown.row i (by omega)
          have hg := hown.lt
          clear hlen hij
          generalize hx : ent m j = x at h1 h2
          generalize hy : ent m i = y at h3 h4
          have HX : Hid (ent m j = x) := hx
          have HY : Hid (ent m i = y) := hy
          clear hx hy
          go_wp2_with fail
          go_region_held3 (fun w' => w'.cell? ⟨g, off + j * 2, none⟩ = some (.int .i64 x.1) ∧ w'.cell? ⟨g, off + j * 2 + 1, none⟩ = some (.int .i64 x.2) ∧ w'.cell? ⟨g, off + i * 2, none⟩ = some (.int .i64 y.1) ∧ w'.cell? ⟨g, off + i * 2 + 1, none⟩ = some (.int .i64 y.2)) (simp [go_sem, *])
            (first | (go_at_call 19; refine (compare_any _ _ _ _ _).mono ?_; rintro e w' ⟨rfl, hbc⟩; have k1 := (hbc.cell (p := ⟨g, off + j * 2, none⟩) hg).trans h1; have k2 := (hbc.cell (p := ⟨g, off + j * 2 + 1, none⟩) hg).trans h2; have k3 := (hbc.cell (p := ⟨g, off + i * 2, none⟩) hg).trans h3; have k4 := (hbc.cell (p := ⟨g, off + i * 2 + 1, none⟩) hg).trans h4))
          rename_i hH
          clear hH h1 h2 h3 h4
          have hown' : Own w' g off m := hown.below hg (below_undrew hbc)
          have hbel' : Below g w w' := hbel.trans ((below_undrew hbc).mono (Nat.le_of_lt hg))
          have fz := hown'.fz
          have OW : Hid (Own w' g off m) := hown'
          have BL : Hid (Below g w w') := hbel'
          have hg' := hown'.lt
          clear hown hown' hbel hbel' hbc hg wr
          generalize hr : decide (cmpS x.1 x.2 y.1 y.2 < 0) = r
          have HR : Hid (decide (cmpS x.1 x.2 y.1 y.2 < 0) = r) := hr
          clear hr
          cases r
          · go_wp2
            go_roundw
            case rel => 
              refine ⟨k + 1, m, by go_num, by omega, by omega, hw, hs.done hj1 hj2 (Or.inr ?_), OW.out, BL.out⟩
              have h1 := HR.out
              rw [← HX.out, ← HY.out] at h1
              rw [show j - 1 = i by have := HIJ.out; omega]
              have h2 := cmpS_neg (ent m j) (ent m i)
              simp only [decide_eq_false_iff_not] at h1
              rw [h2] at h1
              simpa using h1
            case measure => simp [intOf]; omega
          · go_wp2
            go_region
            go_wp2
            go_roundw
            case rel =>
              have hlen := HLEN.out
              have hb : befE (ent m j) (ent m (j - 1)) = true := by
                have h1 := HR.out
                rw [← HX.out, ← HY.out] at h1
                rw [show j - 1 = i by have := HIJ.out; omega]
                have h2 := cmpS_neg (ent m j) (ent m i)
                simp only [decide_eq_true_eq] at h1
                exact h2.1 h1
              have e : j - 1 = i := by have := HIJ.out; omega
              have st := hs.step hja hj2 (by omega) hb
              rw [e] at st
              exact ⟨i, swp m j i, rfl, by omega, by omega, hw.trans (Within.swp (by omega) (by omega) (by omega) (by omega) (by omega)), st, OW.out.swp (by omega) (by omega) HX.out HY.out, below_swp BL.out (Nat.le_refl _) _ _ _ _ _ _ _ _⟩
            case measure => simp [intOf]; omega
        · have hja' : decide ((a : Int) < (j : Int)) = false := by simp; omega
          go_wp2_with fail
          go_quiet (fail)
          go_wp2
          go_roundw
          case rel => exact ⟨k + 1, m, by go_num, by omega, by omega, hw, hs.done hj1 hj2 (Or.inl (by omega)), (hown.below (B := wr.heap.size) hown.lt (below_drewN _ _)), hbel.trans ((below_drewN _ _))⟩
          case measure => simp [intOf]; omega
    · go_wp2
      go_end0
      refine ⟨rfl, m, hw, ?_, hown, hbel⟩
      rcases hk2 with h | h
      · rw [show b = k by omega]; exact hs
      · exact sortedOn_short (by omega)
end Go.Proofs.Ytjjahhiaelaocaa
