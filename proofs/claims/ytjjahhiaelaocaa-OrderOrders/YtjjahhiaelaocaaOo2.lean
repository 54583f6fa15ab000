/- Whatever three entries and list OrderOrders is called with, it returns true, and nothing that was there is turned: Before is a strict total order, Sort keeps all entries and puts them in order. -/
import Derived.Test.YtjjahhiaelaocaaOo1
import Derived.Deep.DeepCutAuto
namespace Go.Proofs.Ytjjahhiaelaocaa
open Go.ChangeShapes Go.WideShapes Go.ChangeAt Go.RowKit

set_option maxRecDepth 100000 in
set_option maxHeartbeats 4000000 in
theorem orders_walk (x y z : Int × Int) (a : Option Addr) (cap : Nat) (l : List (Int × Int)) (w : World) (hl : l.length ≤ maxLen) (hE : Ents w a l) :
    Calls Try.prog 5 #[.agg #[.int .i64 x.1, .int .i64 x.2], .agg #[.int .i64 y.1, .int .i64 y.2], .agg #[.int .i64 z.1, .int .i64 z.2], .slice a l.length cap] w fun e w' => e = .returned (.bool true) ∧ Below w.heap.size w w' := by
  go_enter Try.func5, Try.ntmps5
  go_upto_region 1 with fail
  go_cut [59] from 14 to 59 (fun v wx => v = .bool false ∧ Below w.heap.size w wx)
  case first =>
    have hb : Below w.heap.size w (((w.alloc (.cells #[.int .i64 x.1, .int .i64 x.2] 26)).alloc (.cells #[.int .i64 y.1, .int .i64 y.2] 26)).alloc (.cells #[.int .i64 z.1, .int .i64 z.2] 26)) := below_a1 (below_a2 (Below.refl _ _) (Nat.le_refl _) _ _) (Nat.le_refl _) _
    have hz : w.heap.size + 3 ≤ (((w.alloc (.cells #[.int .i64 x.1, .int .i64 x.2] 26)).alloc (.cells #[.int .i64 y.1, .int .i64 y.2] 26)).alloc (.cells #[.int .i64 z.1, .int .i64 z.2] 26)).heap.size := by simp
    have h3 : Three (((w.alloc (.cells #[.int .i64 x.1, .int .i64 x.2] 26)).alloc (.cells #[.int .i64 y.1, .int .i64 y.2] 26)).alloc (.cells #[.int .i64 z.1, .int .i64 z.2] 26)) w.heap.size x y z := by
      have q1 : w.heap.size < w.heap.size + 1 + 1 := by omega
      refine ⟨?_, ?_, ?_, ?_, ?_, ?_⟩ <;> simp [go_sem, q1]
    generalize (((w.alloc (.cells #[.int .i64 x.1, .int .i64 x.2] 26)).alloc (.cells #[.int .i64 y.1, .int .i64 y.2] 26)).alloc (.cells #[.int .i64 z.1, .int .i64 z.2] 26)) = W at hb hz h3 ⊢
    have hxx := befE_irrefl x
    obtain ⟨x1, x2, y1, y2, z1, z2⟩ := h3
    have h3 := Three.mk x1 x2 y1 y2 z1 z2
    have AA := hid (befT x x false hxx w.heap.size x y z)
    clear hxx hE
    cases hab : befE x y
    · have AB := hid (befT x y false hab w.heap.size x y z)
      cases hba : befE y x
      · obtain rfl := befE_total hab hba
        have hn : ∀ w, (binOp .neq 26 (.agg #[.int .i64 x.1, .int .i64 x.2]) (.agg #[.int .i64 x.1, .int .i64 x.2])).run Try.prog w = .ok (.bool false) w := fun w => by rw [neq26]; simp
        clear hab hba
        go_wp2_with fail
        refine (AA.out _ w hz h3 hb).mono ?_
        rintro e w' ⟨rfl, hz, h3, hb⟩
        obtain ⟨x1, x2, y1, y2, z1, z2⟩ := h3
        have h3 := Three.mk x1 x2 y1 y2 z1 z2
        go_wp2_with fail
        refine (AB.out _ w hz h3 hb).mono ?_
        rintro e w' ⟨rfl, hz, h3, hb⟩
        obtain ⟨x1, x2, y1, y2, z1, z2⟩ := h3
        have h3 := Three.mk x1 x2 y1 y2 z1 z2
        go_wp2_with fail
        refine (AB.out _ w hz h3 hb).mono ?_
        rintro e w' ⟨rfl, hz, h3, hb⟩
        obtain ⟨x1, x2, y1, y2, z1, z2⟩ := h3
        have h3 := Three.mk x1 x2 y1 y2 z1 z2
        go_wp2_with fail
        go_meet
        case rel => exact ⟨rfl, hb⟩
      · have BA := hid (befT y x true hba w.heap.size x y z)
        have hn : ∀ w, (binOp .neq 26 (.agg #[.int .i64 x.1, .int .i64 x.2]) (.agg #[.int .i64 y.1, .int .i64 y.2])).run Try.prog w = .ok (.bool true) w := fun w => by
          rw [neq26, decide_eq_false (fun e => by rw [e, befE_irrefl] at hba; cases hba)]; rfl
        clear hab hba
        go_wp2_with fail
        refine (AA.out _ w hz h3 hb).mono ?_
        rintro e w' ⟨rfl, hz, h3, hb⟩
        obtain ⟨x1, x2, y1, y2, z1, z2⟩ := h3
        have h3 := Three.mk x1 x2 y1 y2 z1 z2
        go_wp2_with fail
        refine (AB.out _ w hz h3 hb).mono ?_
        rintro e w' ⟨rfl, hz, h3, hb⟩
        obtain ⟨x1, x2, y1, y2, z1, z2⟩ := h3
        have h3 := Three.mk x1 x2 y1 y2 z1 z2
        go_wp2_with fail
        refine (AB.out _ w hz h3 hb).mono ?_
        rintro e w' ⟨rfl, hz, h3, hb⟩
        obtain ⟨x1, x2, y1, y2, z1, z2⟩ := h3
        have h3 := Three.mk x1 x2 y1 y2 z1 z2
        go_wp2_with fail
        refine (BA.out _ w hz h3 hb).mono ?_
        rintro e w' ⟨rfl, hz, h3, hb⟩
        obtain ⟨x1, x2, y1, y2, z1, z2⟩ := h3
        have h3 := Three.mk x1 x2 y1 y2 z1 z2
        go_wp2_with fail
        refine (AB.out _ w hz h3 hb).mono ?_
        rintro e w' ⟨rfl, hz, h3, hb⟩
        obtain ⟨x1, x2, y1, y2, z1, z2⟩ := h3
        have h3 := Three.mk x1 x2 y1 y2 z1 z2
        go_wp2_with fail
        go_meet
        case rel => exact ⟨rfl, hb⟩
    · have AB := hid (befT x y true hab w.heap.size x y z)
      have BA := hid (befT y x false (befE_asymm hab) w.heap.size x y z)
      have hn : ∀ w, (binOp .neq 26 (.agg #[.int .i64 x.1, .int .i64 x.2]) (.agg #[.int .i64 y.1, .int .i64 y.2])).run Try.prog w = .ok (.bool true) w := fun w => by
        rw [neq26, decide_eq_false (fun e => by rw [e, befE_irrefl] at hab; cases hab)]; rfl
      cases hbc : befE y z
      · have BC := hid (befT y z false hbc w.heap.size x y z)
        clear hab hbc
        go_wp2_with fail
        refine (AA.out _ w hz h3 hb).mono ?_
        rintro e w' ⟨rfl, hz, h3, hb⟩
        obtain ⟨x1, x2, y1, y2, z1, z2⟩ := h3
        have h3 := Three.mk x1 x2 y1 y2 z1 z2
        go_wp2_with fail
        refine (AB.out _ w hz h3 hb).mono ?_
        rintro e w' ⟨rfl, hz, h3, hb⟩
        obtain ⟨x1, x2, y1, y2, z1, z2⟩ := h3
        have h3 := Three.mk x1 x2 y1 y2 z1 z2
        go_wp2_with fail
        refine (BA.out _ w hz h3 hb).mono ?_
        rintro e w' ⟨rfl, hz, h3, hb⟩
        obtain ⟨x1, x2, y1, y2, z1, z2⟩ := h3
        have h3 := Three.mk x1 x2 y1 y2 z1 z2
        go_wp2_with fail
        refine (AB.out _ w hz h3 hb).mono ?_
        rintro e w' ⟨rfl, hz, h3, hb⟩
        obtain ⟨x1, x2, y1, y2, z1, z2⟩ := h3
        have h3 := Three.mk x1 x2 y1 y2 z1 z2
        go_wp2_with fail
        refine (AB.out _ w hz h3 hb).mono ?_
        rintro e w' ⟨rfl, hz, h3, hb⟩
        obtain ⟨x1, x2, y1, y2, z1, z2⟩ := h3
        have h3 := Three.mk x1 x2 y1 y2 z1 z2
        go_wp2_with fail
        refine (BC.out _ w hz h3 hb).mono ?_
        rintro e w' ⟨rfl, hz, h3, hb⟩
        obtain ⟨x1, x2, y1, y2, z1, z2⟩ := h3
        have h3 := Three.mk x1 x2 y1 y2 z1 z2
        go_wp2_with fail
        go_meet
        case rel => exact ⟨rfl, hb⟩
      · have BC := hid (befT y z true hbc w.heap.size x y z)
        have AC := hid (befT x z true (befE_trans hab hbc) w.heap.size x y z)
        clear hab hbc
        go_wp2_with fail
        refine (AA.out _ w hz h3 hb).mono ?_
        rintro e w' ⟨rfl, hz, h3, hb⟩
        obtain ⟨x1, x2, y1, y2, z1, z2⟩ := h3
        have h3 := Three.mk x1 x2 y1 y2 z1 z2
        go_wp2_with fail
        refine (AB.out _ w hz h3 hb).mono ?_
        rintro e w' ⟨rfl, hz, h3, hb⟩
        obtain ⟨x1, x2, y1, y2, z1, z2⟩ := h3
        have h3 := Three.mk x1 x2 y1 y2 z1 z2
        go_wp2_with fail
        refine (BA.out _ w hz h3 hb).mono ?_
        rintro e w' ⟨rfl, hz, h3, hb⟩
        obtain ⟨x1, x2, y1, y2, z1, z2⟩ := h3
        have h3 := Three.mk x1 x2 y1 y2 z1 z2
        go_wp2_with fail
        refine (AB.out _ w hz h3 hb).mono ?_
        rintro e w' ⟨rfl, hz, h3, hb⟩
        obtain ⟨x1, x2, y1, y2, z1, z2⟩ := h3
        have h3 := Three.mk x1 x2 y1 y2 z1 z2
        go_wp2_with fail
        refine (AB.out _ w hz h3 hb).mono ?_
        rintro e w' ⟨rfl, hz, h3, hb⟩
        obtain ⟨x1, x2, y1, y2, z1, z2⟩ := h3
        have h3 := Three.mk x1 x2 y1 y2 z1 z2
        go_wp2_with fail
        refine (BC.out _ w hz h3 hb).mono ?_
        rintro e w' ⟨rfl, hz, h3, hb⟩
        obtain ⟨x1, x2, y1, y2, z1, z2⟩ := h3
        have h3 := Three.mk x1 x2 y1 y2 z1 z2
        go_wp2_with fail
        refine (AC.out _ w hz h3 hb).mono ?_
        rintro e w' ⟨rfl, hz, h3, hb⟩
        obtain ⟨x1, x2, y1, y2, z1, z2⟩ := h3
        have h3 := Three.mk x1 x2 y1 y2 z1 z2
        go_wp2_with fail
        go_meet
        case rel => exact ⟨rfl, hb⟩
  case rest =>
  obtain ⟨rfl, hb0⟩ := hcut
  have hE1 := hE.below (Nat.le_refl _) hb0
  have BL0 := hid hb0
  have HC := hid (entries_any a cap 20 l wc hl (by decide) hE1)
  clear hb0 hE hE1 hl
  go_wp2_with fail
  refine HC.out.mono ?_
  rintro e w1 ⟨v, m, rfl, hm, hown, hb1⟩
  obtain ⟨am, cm, rfl, hEm, hbase⟩ := own_ents hown
  have BL1 := hid (BL0.out.trans (hb1.mono BL0.out.size))
  have HS := hid (sort_any am cm m w1 (by omega) hEm)
  clear hown hb1 HC BL0 hbase
  go_wp2_with fail
  refine HS.out.mono ?_
  rintro e w2 ⟨rfl, s, hw, hs, hown2, hb2⟩
  have hlen := hw.len
  have hEs : Ents w2 (some ⟨w1.heap.size, 0, none⟩) s := Or.inr ⟨_, _, rfl, hown2.lt, hown2.row⟩
  have BL2 := hid (BL1.out.trans (hb2.mono BL1.out.size))
  have hEm2 := hEm.below (Nat.le_refl _) hb2
  have hso := sorted_any (some ⟨w1.heap.size, 0, none⟩) m.length s w2 (by omega) hEs
  rw [srt_of_sorted (by rw [hlen]; exact hs), hlen] at hso
  have HO := hid hso
  have hne : ((m.length : Int) != (m.length : Int)) = false := by simp
  have HP := hid hw.perm
  have HLEN := hid hlen
  clear hso hs hw hb2 hown2 HS hlen BL1 hEm
  go_wp2_with fail
  refine HO.out.mono ?_
  rintro e w3 ⟨rfl, hb3⟩
  have BL3 := hid (BL2.out.trans (hb3.mono BL2.out.size))
  have EM := hid (hEm2.below (Nat.le_refl _) hb3)
  have ES := hid (hEs.below (Nat.le_refl _) hb3)
  clear hb3 hEs hEm2 HO BL2
  go_wp2
  go_loopw [11] (fun iv wr => ∃ i n : Nat, iv = .int .i64 i ∧ i ≤ m.length ∧ wr = w3.drewN n) (fun i _ => m.length - (intOf i).toNat)
  case atStart => exact ⟨0, 0, rfl, Nat.zero_le _, rfl⟩
  case round =>
    obtain ⟨i, n, rfl, hi, rfl⟩ := hrel
    by_cases hlt : i < m.length
    · go_wp2
      go_loopw [12, 13] (fun nv kv wr => ∃ k q : Nat, nv = .int .i64 ((cnt m (ent m i) k : Int) - (cnt s (ent m i) k : Int)) ∧ kv = .int .i64 k ∧ k ≤ m.length ∧ wr = w3.drewN q) (fun _ k _ => m.length - (intOf k).toNat)
      case atStart => exact ⟨0, n, rfl, rfl, Nat.zero_le _, rfl⟩
      case round =>
        obtain ⟨k, q, rfl, rfl, hk, rfl⟩ := hrel
        have a1 := cnt_le m (ent m i) k
        have b1 := cnt_le s (ent m i) k
        by_cases hlt' : k < m.length
        · generalize hA : cnt m (ent m i) k = A at a1 ⊢
          generalize hB : cnt s (ent m i) k = B at b1 ⊢
          have HA := hid hA
          have HB := hid hB
          have hnm : m ≠ [] := fun e => by rw [e] at hlt; simp at hlt
          have hns : s ≠ [] := fun e => by have := HLEN.out; rw [e] at this; simp at this; omega
          obtain ⟨bm, om, rfl, hbm, hrm⟩ := EM.out.resolve_left hnm
          obtain ⟨bs, os', hbe, hbs, hrs⟩ := ES.out.resolve_left hns
          obtain ⟨rfl, rfl⟩ : w1.heap.size = bs ∧ 0 = os' := by injection hbe with e; injection e with e1 e2; exact ⟨e1, e2⟩
          obtain ⟨c1, c2⟩ := hrm k hlt'
          obtain ⟨c3, c4⟩ := hrm i hlt
          obtain ⟨c5, c6⟩ := hrs k (by have := HLEN.out; omega)
          rw [Nat.zero_add] at c5 c6
          clear hA hB hnm hns hbe hrm hrs hbm hbs EM ES
          generalize hp : ent m k = p at c1 c2
          generalize ht : ent m i = t at c3 c4
          generalize hr : ent s k = r at c5 c6
          have HP' := hid hp
          have HT := hid ht
          have HR' := hid hr
          clear hp ht hr
          by_cases e1 : p = t
          · by_cases e2 : r = t
            · have hq1 : ∀ w, (binOp .eql 26 (.agg #[.int .i64 p.1, .int .i64 p.2]) (.agg #[.int .i64 t.1, .int .i64 t.2])).run Try.prog w = .ok (.bool true) w := fun w => by rw [eql26]; simp [e1]
              have hq2 : ∀ w, (binOp .eql 26 (.agg #[.int .i64 r.1, .int .i64 r.2]) (.agg #[.int .i64 t.1, .int .i64 t.2])).run Try.prog w = .ok (.bool true) w := fun w => by rw [eql26]; simp [e2]
              have E1 := hid e1
              have E2 := hid e2
              clear e1 e2
              go_wp2
              go_quiet (fail)
              go_wp2
              go_quiet (fail)
              go_wp2
              go_roundw
              case rel =>
                have e1 := E1.out
                have e2 := E2.out
                rw [← HP'.out, ← HT.out] at e1
                rw [← HR'.out, ← HT.out] at e2
                refine ⟨k + 1, _, ?_, by go_num, by omega, rfl⟩
                rw [← HT.out, cnt_yes e1, cnt_yes e2, HA.out, HB.out]
                go_num
              case measure => simp [intOf]; omega
            · have hq1 : ∀ w, (binOp .eql 26 (.agg #[.int .i64 p.1, .int .i64 p.2]) (.agg #[.int .i64 t.1, .int .i64 t.2])).run Try.prog w = .ok (.bool true) w := fun w => by rw [eql26]; simp [e1]
              have hq2 : ∀ w, (binOp .eql 26 (.agg #[.int .i64 r.1, .int .i64 r.2]) (.agg #[.int .i64 t.1, .int .i64 t.2])).run Try.prog w = .ok (.bool false) w := fun w => by rw [eql26]; simp [e2]
              have E1 := hid e1
              have E2 := hid e2
              clear e1 e2
              go_wp2
              go_quiet (fail)
              go_wp2
              go_quiet (fail)
              go_wp2
              go_roundw
              case rel =>
                have e1 := E1.out
                have e2 := E2.out
                rw [← HP'.out, ← HT.out] at e1
                rw [← HR'.out, ← HT.out] at e2
                refine ⟨k + 1, _, ?_, by go_num, by omega, rfl⟩
                rw [← HT.out, cnt_yes e1, cnt_no e2, HA.out, HB.out]
                go_num
              case measure => simp [intOf]; omega
          · by_cases e2 : r = t
            · have hq1 : ∀ w, (binOp .eql 26 (.agg #[.int .i64 p.1, .int .i64 p.2]) (.agg #[.int .i64 t.1, .int .i64 t.2])).run Try.prog w = .ok (.bool false) w := fun w => by rw [eql26]; simp [e1]
              have hq2 : ∀ w, (binOp .eql 26 (.agg #[.int .i64 r.1, .int .i64 r.2]) (.agg #[.int .i64 t.1, .int .i64 t.2])).run Try.prog w = .ok (.bool true) w := fun w => by rw [eql26]; simp [e2]
              have E1 := hid e1
              have E2 := hid e2
              clear e1 e2
              go_wp2
              go_quiet (fail)
              go_wp2
              go_quiet (fail)
              go_wp2
              go_roundw
              case rel =>
                have e1 := E1.out
                have e2 := E2.out
                rw [← HP'.out, ← HT.out] at e1
                rw [← HR'.out, ← HT.out] at e2
                refine ⟨k + 1, _, ?_, by go_num, by omega, rfl⟩
                rw [← HT.out, cnt_no e1, cnt_yes e2, HA.out, HB.out]
                go_num
              case measure => simp [intOf]; omega
            · have hq1 : ∀ w, (binOp .eql 26 (.agg #[.int .i64 p.1, .int .i64 p.2]) (.agg #[.int .i64 t.1, .int .i64 t.2])).run Try.prog w = .ok (.bool false) w := fun w => by rw [eql26]; simp [e1]
              have hq2 : ∀ w, (binOp .eql 26 (.agg #[.int .i64 r.1, .int .i64 r.2]) (.agg #[.int .i64 t.1, .int .i64 t.2])).run Try.prog w = .ok (.bool false) w := fun w => by rw [eql26]; simp [e2]
              have E1 := hid e1
              have E2 := hid e2
              clear e1 e2
              go_wp2
              go_quiet (fail)
              go_wp2
              go_quiet (fail)
              go_wp2
              go_roundw
              case rel =>
                have e1 := E1.out
                have e2 := E2.out
                rw [← HP'.out, ← HT.out] at e1
                rw [← HR'.out, ← HT.out] at e2
                refine ⟨k + 1, _, ?_, by go_num, by omega, rfl⟩
                rw [← HT.out, cnt_no e1, cnt_no e2, HA.out, HB.out]
              case measure => simp [intOf]; omega
        · have e : k = m.length := by omega
          have c := cnt_perm HP.out (ent m i)
          have hz : (((cnt m (ent m i) k : Int) - (cnt s (ent m i) k : Int)) != 0) = false := by
            rw [bne_eq_false_iff_eq, e, c]; omega
          clear a1 b1 c
          generalize ((cnt m (ent m i) k : Int) - (cnt s (ent m i) k : Int)) = d at hz ⊢
          clear e
          go_wp2
          go_roundw
          case rel => exact ⟨i + 1, q, by go_num, by omega, rfl⟩
          case measure => simp [intOf]; omega
    · go_wp2_with fail
      refine (known_any _).mono ?_
      rintro e w4 ⟨rfl, hb4⟩
      go_wp2
      go_ret
      exact ⟨rfl, BL3.out.trans ((below_drewN _ _).trans (hb4.mono (by have := BL3.out.size; simp; omega)))⟩
end Go.Proofs.Ytjjahhiaelaocaa
