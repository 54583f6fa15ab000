/- The walk of near: calls of cells and fields that there may be. -/
import Derived.Test.YtokmefgdbklepaaLift
import Derived.SizedLaws
namespace Go.Proofs.Ytokmefgdbklepaa
open Go.ChangeShapes Go.WideShapes Go.ChangeAt Go.RowKit

theorem info25 : (Try.prog.info? 25).map (fun i => (i.zero, i.size, i.bytes)) = some (some (.agg #[.int .i64 0, .int .i64 0, .int .i64 0, .int .i64 0]), 4, 32) := by kernel_rfl
theorem ask4_len : ∀ q, (ask4 q).length = 4 := fun _ => rfl
theorem ask4_one : ∀ q, ∀ v ∈ ask4 q, v.oneCell' = true := fun q v h => by
  simp [ask4] at h
  rcases h with rfl | rfl | rfl | rfl <;> rfl
theorem came_own {w : World} {base : Nat} {v : Value} {l : List Ask} (h : w.ownsRow base 25 4 v l.length (row ask4 l)) : ∃ a c, v = .slice a l.length c ∧ Came w a 4 ask4 l := by
  by_cases c : 0 < l.length
  · obtain ⟨g, cap, rfl, _, hg⟩ := h.form c
    refine ⟨_, _, rfl, Or.inr ⟨g, 0, rfl, hg, fun i x hx j hj => ?_⟩⟩
    have hi : i < l.length := (List.getElem?_eq_some_iff.1 hx).1
    rw [Nat.zero_add, h.cellAt (i * 4 + j) (by omega), row_get ask4_len l i j x hx hj]
  · obtain ⟨a, cp, rfl⟩ := own_form h
    exact ⟨a, cp, rfl, Or.inl (List.eq_nil_of_length_eq_zero (by omega))⟩

set_option maxHeartbeats 4000000 in
theorem near_walk (a : Option Addr) (cap : Nat) (l : List Ask) (hl : l.length ≤ 4398046511104) (w : World) (hI : ∀ q ∈ l, askI q) (hC : Came w a 4 ask4 l) :
    Calls Try.prog 12 #[.slice a l.length cap] w fun e w' => ∃ v l', e = .returned v ∧ w'.ownsRow w.heap.size 25 4 v (List.length l') (row ask4 l') ∧ Below w.heap.size w w' := by
  have HC := hid hC
  have HI := hid hI
  clear hC hI
  obtain ⟨ti, hti, hz0, hz1, hz2⟩ := info_parts info25
  have HT := hid hti
  have Z0 := hid hz0
  have Z1 := hid hz1
  have Z2 := hid hz2
  clear hti hz0 hz1 hz2
  go_enter Try.func12, Try.ntmps12
  go_wp2_with fail
  go_loopw [3, 4] (fun ov iv wr => ∃ (k : Nat) (m : List Ask), iv = .int .i64 k ∧ k ≤ l.length ∧ m.length = k ∧ wr.ownsRow w.heap.size 25 4 ov m.length (row ask4 m) ∧ Below w.heap.size w wr) (fun _ i _ => l.length - (intOf i).toNat)
  case atStart => exact ⟨0, [], rfl, Nat.zero_le _, rfl, ⟨rfl, Or.inl ⟨rfl, rfl⟩⟩, Below.refl _ _⟩
  case round =>
    obtain ⟨k, m, rfl, hk, hmk, hO, hB⟩ := hrel
    have HO := hid hO
    have HB := hid hB
    have HM := hid hmk
    clear hO hB hmk
    by_cases hlt : k < l.length
    · have hx : l[k]? = some l[k] := List.getElem?_eq_getElem hlt
      obtain ⟨b0, off, ee, hb0, hc0⟩ := HC.out.get HB.out hx
      subst ee
      have hIq := HI.out l[k] (List.getElem_mem hlt)
      generalize l[k] = y at hx hc0 hIq
      obtain ⟨kd, qc, qf, qv⟩ := y
      have d0 : wr.cell? ⟨b0, off + k * 4, none⟩ = some (.int .i64 kd) := by simpa [ask4] using hc0 0 (by decide)
      have d1 : wr.cell? ⟨b0, off + k * 4 + 1, none⟩ = some (.int .i64 qc) := by simpa [ask4, Nat.add_assoc] using hc0 1 (by decide)
      have d2 : wr.cell? ⟨b0, off + k * 4 + 2, none⟩ = some (.int .i64 qf) := by simpa [ask4, Nat.add_assoc] using hc0 2 (by decide)
      have d3 : wr.cell? ⟨b0, off + k * 4 + 3, none⟩ = some (.int .i64 qv) := by simpa [ask4, Nat.add_assoc] using hc0 3 (by decide)
      have hbr : b0 < wr.heap.size := Nat.lt_of_lt_of_le hb0 HB.out.size
      have hlt' : (k : Int) < (l.length : Int) := by omega
      obtain ⟨oa, oc, rfl⟩ := own_form HO.out
      have hqc : I64 qc := hIq.2.1
      have hqf : I64 qf := hIq.2.2.1
      clear hx hc0 hIq
      have AC := hid (fun W => within_any qc hqc (-1) 9 (by decide) (by decide) (by decide) W)
      have AF := hid (fun W => within_any qf hqf 0 10 (by decide) (by decide) (by decide) W)
      have E0 := hid ((HB.out.cell (p := ⟨b0, off + k * 4, none⟩) hb0).symm.trans d0)
      have E1 := hid ((HB.out.cell (p := ⟨b0, off + k * 4 + 1, none⟩) hb0).symm.trans d1)
      have E2 := hid ((HB.out.cell (p := ⟨b0, off + k * 4 + 2, none⟩) hb0).symm.trans d2)
      have E3 := hid ((HB.out.cell (p := ⟨b0, off + k * 4 + 3, none⟩) hb0).symm.trans d3)
      have keep4 : ∀ {W' : World}, wr.cell? ⟨b0, off + k * 4, none⟩ = some (.int .i64 kd) → wr.cell? ⟨b0, off + k * 4 + 1, none⟩ = some (.int .i64 qc) → wr.cell? ⟨b0, off + k * 4 + 2, none⟩ = some (.int .i64 qf) → wr.cell? ⟨b0, off + k * 4 + 3, none⟩ = some (.int .i64 qv) → Kept (fun _ => False) wr W' → W'.cell? ⟨b0, off + k * 4, none⟩ = some (.int .i64 kd) ∧ W'.cell? ⟨b0, off + k * 4 + 1, none⟩ = some (.int .i64 qc) ∧ W'.cell? ⟨b0, off + k * 4 + 2, none⟩ = some (.int .i64 qf) ∧ W'.cell? ⟨b0, off + k * 4 + 3, none⟩ = some (.int .i64 qv) := fun q0 q1 q2 q3 K => ⟨(K.cell (p := ⟨b0, _, none⟩) hbr fun e => e).trans q0, (K.cell (p := ⟨b0, _, none⟩) hbr fun e => e).trans q1, (K.cell (p := ⟨b0, _, none⟩) hbr fun e => e).trans q2, (K.cell (p := ⟨b0, _, none⟩) hbr fun e => e).trans q3⟩
      go_wp2_with fail
      go_region_held3 (fun w' => w'.cell? ⟨b0, off + k * 4, none⟩ = some (.int .i64 kd) ∧ w'.cell? ⟨b0, off + k * 4 + 1, none⟩ = some (.int .i64 qc) ∧ w'.cell? ⟨b0, off + k * 4 + 2, none⟩ = some (.int .i64 qf) ∧ w'.cell? ⟨b0, off + k * 4 + 3, none⟩ = some (.int .i64 qv)) (first | exact ⟨z0, z1, z2, z3⟩ | exact keep4 d0 d1 d2 d3 (by first | exact (Kept.refl _ _).drew | exact (Kept.refl _ _).drewN _ | exact ((Kept.refl _ _).drewN _).alloc _))
        (first
          | (go_at_call 11; with_reducible refine (AC.out _).mono ?_; rintro e w1 ⟨r1, rfl, r1a, r1b, rfl⟩)
          | (go_at_call 11; with_reducible refine (AF.out _).mono ?_; rintro e w1 ⟨r2, rfl, r2a, r2b, rfl⟩)
          | (refine step_append_lies _ rfl (.tmp 11) (.tmp 35) 22 rfl w.heap.size 25 ti _ 4 32 Try.underlying22 HT.out Z0.out Z1.out Z2.out rfl (by decide) (.slice oa m.length oc) m.length (row ask4 m) rfl (by exact own_plain HO.out (((Kept.refl _ _).drewN _).alloc _)) _ 1 1 (ask4 ⟨kd, r1, r2, qv⟩) rfl rfl (by exact World.news_of_block (heap_alloc_new (wr.drewN _) _)) (ask4_one _) (by decide) (by have := HM.out; simp [maxLen]; omega) (by have := HM.out; omega) (by have := HB.out.size; simp; omega) _ rfl ?_; intro g2 c2 w2 ho hgr2 hat hlt2; have B2 := hid ((below_drewN HB.out _).alloc HB.out.size _ |>.grown hgr2 (by have := HB.out.size; simp; omega) (fun k hk => (HO.out.lt k hk).1)); have z0 := (B2.out.cell (p := ⟨b0, off + k * 4, none⟩) hb0).trans E0.out; have z1 := (B2.out.cell (p := ⟨b0, off + k * 4 + 1, none⟩) hb0).trans E1.out; have z2 := (B2.out.cell (p := ⟨b0, off + k * 4 + 2, none⟩) hb0).trans E2.out; have z3 := (B2.out.cell (p := ⟨b0, off + k * 4 + 3, none⟩) hb0).trans E3.out; have O2 := hid ho; clear ho hgr2 hat hlt2))
      all_goals
        clear d0 d1 d2 d3 z0 z1 z2 z3
        go_wp2
        go_roundw
        case rel => exact ⟨k + 1, m ++ [⟨kd, r1, r2, qv⟩], by go_num, by omega, by simp [HM.out], by rw [row_snoc, List.length_append]; exact O2.out, B2.out⟩
        case measure => simp [intOf]; omega
    · obtain rfl : k = l.length := by omega
      go_wp2
      go_ret
      exact ⟨_, m, rfl, HO.out, HB.out⟩
end Go.Proofs.Ytokmefgdbklepaa
