/- The walk of OrderTells: whatever it is called with, it returns true, and nothing that was there is turned. -/
import Derived.Test.YtjjahhiaelaocaaRoo
import Derived.Test.YtjjahhiaelaocaaSmv
import Derived.Deep.RegionWith
namespace Go.Proofs.Ytjjahhiaelaocaa
open Go.ChangeShapes Go.WideShapes Go.ChangeAt Go.RowKit

/-- what stays while OrderTells compares: two boxed entries, a slice, a marked row -/
structure Stay (W : World) (B : Nat) (x y : Int × Int) (am : Option Addr) (m : List (Int × Int)) (g : Nat) (c : List (Int × Int)) (w0 : World) : Prop where
  size : B + 2 ≤ W.heap.size
  two : Two W B x y
  ents : Ents W am m
  own : Own W g 0 c
  bel : Below B w0 W

theorem Stay.below {W W' : World} {B : Nat} {x y : Int × Int} {am : Option Addr} {m : List (Int × Int)} {g : Nat} {c : List (Int × Int)} {w0 : World} (h : Stay W B x y am m g c w0) (k : Below W.heap.size W W') : Stay W' B x y am m g c w0 :=
  ⟨Nat.le_trans h.size k.size, h.two.below h.size k, h.ents.below (Nat.le_refl _) k, h.own.below (B := W.heap.size) h.own.lt k, h.bel.trans (k.mono (by have := h.size; omega))⟩
theorem Stay.drew {W : World} {B : Nat} {x y : Int × Int} {am : Option Addr} {m : List (Int × Int)} {g : Nat} {c : List (Int × Int)} {w0 : World} (h : Stay W B x y am m g c w0) : Stay W.drew B x y am m g c w0 :=
  h.below (Below.refl _ W).drew

theorem ents_of_marked {W : World} {g : Nat} {m c : List (Int × Int)} {k : Int × Int} {i : Nat} (h : Marked m c k i) (ho : Own W g 0 c) : Ents W (some ⟨g, 0, none⟩) m := by
  have := ho.row.take m.length
  rw [h.take] at this
  exact Or.inr ⟨g, 0, rfl, ho.lt, this⟩
theorem i64_tmod (n : Int) : I64 (n.tmod 100) := by
  obtain ⟨h1, h2⟩ := tmod_i64 (n := n) (k := 100) (by decide) (by decide)
  exact ⟨by omega, by omega⟩

set_option maxRecDepth 100000 in
set_option maxHeartbeats 8000000 in
theorem tells_walk (a : Option Addr) (cap : Nat) (l : List (Int × Int)) (x y : Int × Int) (n p q : Int) (w : World) (hl : l.length ≤ maxLen) (hE : Ents w a l) (hn : I64 n) (hp : I64 p) (hq : I64 q) :
    Calls Try.prog 4 #[.slice a l.length cap, .agg #[.int .i64 x.1, .int .i64 x.2], .agg #[.int .i64 y.1, .int .i64 y.2], .int .i64 n, .int .i64 p, .int .i64 q] w fun e w' => e = .returned (.bool true) ∧ Below w.heap.size w w' := by
  have b0 : Below w.heap.size w ((w.alloc (.cells #[.int .i64 x.1, .int .i64 x.2] 26)).alloc (.cells #[.int .i64 y.1, .int .i64 y.2] 26)) := below_a2 (Below.refl _ _) (Nat.le_refl _) _ _
  have hz : w.heap.size + 2 ≤ ((w.alloc (.cells #[.int .i64 x.1, .int .i64 x.2] 26)).alloc (.cells #[.int .i64 y.1, .int .i64 y.2] 26)).heap.size := by simp
  have h2 : Two ((w.alloc (.cells #[.int .i64 x.1, .int .i64 x.2] 26)).alloc (.cells #[.int .i64 y.1, .int .i64 y.2] 26)) w.heap.size x y := by
    refine ⟨?_, ?_, ?_, ?_⟩ <;> simp [go_sem]
  have HC := hid (entries_any a cap 30 l _ hl (by decide) (hE.below (Nat.le_refl _) b0))
  have B0 := hid b0
  have HZ := hid hz
  have H2 := hid h2
  have HN := hid hn
  have HP := hid hp
  have HQ := hid hq
  have T1 := hid (i64_tmod p)
  have T2 := hid (i64_tmod q)
  clear b0 hz h2 hn hp hq hE hl
  go_enter Try.func4, Try.ntmps4
  go_wp2_with fail
  refine HC.out.mono ?_
  rintro e w1 ⟨v, m, rfl, hm, hown, hb1⟩
  obtain ⟨am, cm, rfl, hEm, _⟩ := own_ents hown
  have HR := hid (roomy_any am cm m (165, 0) w1 (by omega) hEm)
  have z1 := hid (Nat.le_trans HZ.out hb1.size)
  have t1 := hid (H2.out.below HZ.out hb1)
  have b1 := hid (B0.out.trans (hb1.mono (by have := HZ.out; omega)))
  have EM := hid hEm
  clear hown hb1 hEm HC B0 HZ H2
  go_wp2_with fail
  refine HR.out.mono ?_
  rintro e W ⟨g, rfl, c, hM, ho, hg, hb2⟩
  have st : Stay W w.heap.size x y am m g c w := ⟨Nat.le_trans z1.out hb2.size, t1.out.below z1.out hb2, EM.out.below (Nat.le_refl _) hb2, ho, b1.out.trans (hb2.mono (by have := z1.out; omega))⟩
  have MK := hid hM
  clear hM ho hg hb2 HR z1 t1 b1 EM
  obtain ⟨k1, k2, k3, k4⟩ := st.two
  have hs1 : (m.length : Int) ≤ (m.length : Int) + 80 := by omega
  have hs2 : (0 : Int) ≤ (m.length : Int) := by omega
  have hs3 : m.length ≤ m.length + 80 := by omega
  go_wp2
  go_region_held3 (fun w' => w'.cell? ⟨w.heap.size, 0, none⟩ = some (.int .i64 x.1) ∧ w'.cell? ⟨w.heap.size, 1, none⟩ = some (.int .i64 x.2) ∧ w'.cell? ⟨w.heap.size + 1, 0, none⟩ = some (.int .i64 y.1) ∧ w'.cell? ⟨w.heap.size + 1, 1, none⟩ = some (.int .i64 y.2)) (exact ⟨k1, k2, k3, k4⟩)
    (first
      | (go_at_call_of 7 (Value.int IntKind.i64 p); refine (samev_any x y n p q HN.out HP.out HQ.out _).mono ?_; rintro e w' ⟨rfl, hb⟩; have st := (by first | exact st.below hb | exact st.drew.below hb); obtain ⟨k1, k2, k3, k4⟩ := st.two)
      | (go_at_call 12; refine (within_any n HN.out _).mono ?_; rintro e w' ⟨r, rfl, hr, rfl⟩; have RI := hid hr; clear hr)
      | (go_at_call_of 7 (Value.int IntKind.i64 r); refine (samev_any x (x.1, y.2) r (p.tmod 100) (q.tmod 100) RI.out (by exact T1.out) (by exact T2.out) _).mono ?_; rintro e w' ⟨rfl, hb⟩; have st := (by first | exact st.below hb | exact st.drew.below hb); obtain ⟨k1, k2, k3, k4⟩ := st.two)
      | (go_at_call 8; refine (list_any (some ⟨g, 0, none⟩) (m.length + 80) m _ (by omega) (by exact ents_of_marked MK.out st.own)).mono ?_; rintro e w' ⟨rfl, hb⟩; have st := (by first | exact st.below hb | exact st.drew.below hb); obtain ⟨k1, k2, k3, k4⟩ := st.two)
      | (go_at_call 13; refine (intact_any g am cm m c (165, 0) _ (by omega) (by exact st.ents) MK.out (by exact st.own)).mono ?_; rintro e w' ⟨rfl, hb⟩; have st := (by first | exact st.below hb | exact st.drew.below hb); obtain ⟨k1, k2, k3, k4⟩ := st.two)
      | (go_at_call 9; refine (known_any _).mono ?_; rintro e w' ⟨rfl, hb⟩; have st := (by first | exact st.below hb | exact st.drew.below hb); obtain ⟨k1, k2, k3, k4⟩ := st.two))
  have BL := hid st.bel
  clear st k1 k2 k3 k4
  go_wp2
  go_ret
  exact ⟨rfl, BL.out⟩
end Go.Proofs.Ytjjahhiaelaocaa
