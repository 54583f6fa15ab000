/- The walk of OrderNumbers, a closed sentence: it returns true, and nothing that was there is turned. -/
import Derived.Test.YtjjahhiaelaocaaTel
namespace Go.Proofs.Ytjjahhiaelaocaa
open Go.ChangeShapes Go.WideShapes Go.ChangeAt Go.RowKit

/-- the first k cells of block g hold numbers of an int64 -/
def Nums (W : World) (g k : Nat) : Prop := g < W.heap.size ∧ ∀ j, j < k → ∃ v, W.cell? ⟨g, j, none⟩ = some (.int .i64 v) ∧ I64 v

theorem Nums.below {W W' : World} {g k : Nat} (h : Nums W g k) (b : Below W.heap.size W W') : Nums W' g k :=
  ⟨Nat.lt_of_lt_of_le h.1 b.size, fun j hj => by
    obtain ⟨v, h1, h2⟩ := h.2 j hj
    exact ⟨v, (b.cell (p := ⟨g, j, none⟩) h.1).trans h1, h2⟩⟩

theorem i64_wrap (n : Int) : I64 (wrap64 n) := by unfold wrap64 I64; omega

theorem nums_four (W : World) (a b c d : Int) (ha : I64 a) (hb : I64 b) (hc : I64 c) (hd : I64 d) : Nums (W.alloc (.cells #[.int .i64 a, .int .i64 b, .int .i64 c, .int .i64 d] 2)) W.heap.size 4 := by
  refine ⟨by simp, fun j hj => ?_⟩
  match j, hj with
  | 0, _ => exact ⟨a, by simp, ha⟩
  | 1, _ => exact ⟨b, by simp, hb⟩
  | 2, _ => exact ⟨c, by simp, hc⟩
  | 3, _ => exact ⟨d, by simp, hd⟩
theorem nums_six (W : World) (a b c d e f : Int) (ha : I64 a) (hb : I64 b) (hc : I64 c) (hd : I64 d) (he : I64 e) (hf : I64 f) : Nums (W.alloc (.cells #[.int .i64 a, .int .i64 b, .int .i64 c, .int .i64 d, .int .i64 e, .int .i64 f] 2)) W.heap.size 6 := by
  refine ⟨by simp, fun j hj => ?_⟩
  match j, hj with
  | 0, _ => exact ⟨a, by simp, ha⟩
  | 1, _ => exact ⟨b, by simp, hb⟩
  | 2, _ => exact ⟨c, by simp, hc⟩
  | 3, _ => exact ⟨d, by simp, hd⟩
  | 4, _ => exact ⟨e, by simp, he⟩
  | 5, _ => exact ⟨f, by simp, hf⟩

theorem alloc_below {w W : World} (h : Below w.heap.size w W) (o : Obj) : Below w.heap.size w (W.alloc o) := below_a1 h (Nat.le_refl _) o

set_option maxRecDepth 100000 in
set_option maxHeartbeats 4000000 in
theorem numbers_walk (w : World) :
    Calls Try.prog 3 #[] w fun e w' => e = .returned (.bool true) ∧ Below w.heap.size w w' := by
  go_enter Try.func3, Try.ntmps3
  go_wp2
  go_loopw [1] (fun iv wr => ∃ i : Nat, iv = .int .i64 i ∧ i ≤ 64 ∧ Below w.heap.size w wr) (fun i _ => 64 - (intOf i).toNat)
  case atStart => exact ⟨0, rfl, by omega, Below.refl _ _⟩
  case round =>
    obtain ⟨i, rfl, hi, hbel⟩ := hrel
    obtain ⟨w1, rfl⟩ : ∃ w1, w1 = wr := ⟨wr, rfl⟩
    by_cases hlt : i < 64
    · have hlti : (i : Int) < 64 := by omega
      have hltd : decide ((i : Int) < 64) = true := by simp; omega
      have n1 := hid (nums_four w1 _ _ _ 5 (i64_wrap (2 ^ i)) (i64_wrap (wrap64 (2 ^ i) - 1)) (i64_wrap (-wrap64 (2 ^ i))) ⟨by decide, by decide⟩)
      have BL := hid (alloc_below hbel (.cells #[.int .i64 (wrap64 (2 ^ i)), .int .i64 (wrap64 (wrap64 (2 ^ i) - 1)), .int .i64 (wrap64 (-wrap64 (2 ^ i))), .int .i64 5] 2))
      clear hbel
      go_wp2
      generalize hg1 : w1.heap.size = g1 at n1 ⊢
      generalize w1.alloc (.cells #[.int .i64 (wrap64 (2 ^ i)), .int .i64 (wrap64 (wrap64 (2 ^ i) - 1)), .int .i64 (wrap64 (-wrap64 (2 ^ i))), .int .i64 5] 2) = W1 at n1 BL ⊢
      clear hg1
      generalize wrap64 (2 ^ i) = c1
      go_loopw [25] (fun jv wr => ∃ j : Nat, jv = .int .i64 j ∧ j ≤ 4 ∧ Nums wr g1 4 ∧ Below w.heap.size w wr) (fun j _ => 4 - (intOf j).toNat)
      case atStart => exact ⟨0, rfl, by omega, n1.out, BL.out⟩
      case round =>
        obtain ⟨j, rfl, hj, hn1, hbel⟩ := hrel
        obtain ⟨w2, rfl⟩ : ∃ w2, w2 = wr := ⟨wr, rfl⟩
        clear n1 BL
        by_cases hlt2 : j < 4
        · have hltj : (j : Int) < 4 := by omega
          obtain ⟨n, hn, hnI⟩ := hn1.2 j hlt2
          have m6 := hid (nums_six w2 0 1 (-1) 9223372036854775807 (-9223372036854775808) n ⟨by decide, by decide⟩ ⟨by decide, by decide⟩ ⟨by decide, by decide⟩ ⟨by decide, by decide⟩ ⟨by decide, by decide⟩ hnI)
          have BL := hid (alloc_below hbel (.cells #[.int .i64 0, .int .i64 1, .int .i64 (-1), .int .i64 9223372036854775807, .int .i64 (-9223372036854775808), .int .i64 n] 2))
          have m4 := hid (hn1.below (below_a1 (Below.refl _ _) (Nat.le_refl _) (.cells #[.int .i64 0, .int .i64 1, .int .i64 (-1), .int .i64 9223372036854775807, .int .i64 (-9223372036854775808), .int .i64 n] 2)))
          have NI := hid hnI
          clear hn1 hbel hnI
          go_wp2
          generalize hg2 : w2.heap.size = g2 at m6 ⊢
          generalize w2.alloc (.cells #[.int .i64 0, .int .i64 1, .int .i64 (-1), .int .i64 9223372036854775807, .int .i64 (-9223372036854775808), .int .i64 n] 2) = W2 at m6 m4 BL ⊢
          clear hg2 hn
          go_loopw [32] (fun kv wr => ∃ k : Nat, kv = .int .i64 k ∧ k ≤ 6 ∧ Nums wr g2 6 ∧ Nums wr g1 4 ∧ Below w.heap.size w wr) (fun k _ => 6 - (intOf k).toNat)
          case atStart => exact ⟨0, rfl, by omega, m6.out, m4.out, BL.out⟩
          case round =>
            obtain ⟨k, rfl, hk, hn6, hn4, hbel⟩ := hrel
            clear m6 m4 BL
            have N6 := hid hn6
            have N4 := hid hn4
            have BL := hid hbel
            by_cases hlt3 : k < 6
            · have hltk : (k : Int) < 6 := by omega
              obtain ⟨m, hm, hmI⟩ := hn6.2 k hlt3
              have MI := hid hmI
              clear hn6 hn4 hbel hmI
              go_wp2_with fail
              refine (samev_any (n, m) (m, n) n n m NI.out NI.out MI.out _).mono ?_
              rintro e w3 ⟨rfl, hb3⟩
              clear hm
              go_wp2_with fail
              refine (samev_any (n, 1) (n, m) m m n MI.out MI.out NI.out _).mono ?_
              rintro e w4 ⟨rfl, hb4⟩
              have hb := hb3.trans (hb4.mono hb3.size)
              have N6' := hid (N6.out.below hb)
              have N4' := hid (N4.out.below hb)
              have BL' := hid (BL.out.trans (hb.mono BL.out.size))
              clear hb3 hb4 hb N6 N4 BL
              go_wp2
              go_roundw
              case rel => exact ⟨k + 1, by go_num, by omega, N6'.out, N4'.out, BL'.out⟩
              case measure => simp [intOf]; omega
            · have hltk : ¬ (k : Int) < 6 := by omega
              clear hn6 hn4 hbel
              go_wp2
              go_roundw
              case rel => exact ⟨j + 1, by go_num, by omega, N4.out, BL.out⟩
              case measure => simp [intOf]; omega
        · have hltj : ¬ (j : Int) < 4 := by omega
          have BL := hid hbel
          clear hn1 hbel
          go_wp2
          go_roundw
          case rel => exact ⟨i + 1, by go_num, by omega, BL.out⟩
          case measure => simp [intOf]; omega
    · have hlti : ¬ (i : Int) < 64 := by omega
      have BL := hid hbel
      clear hbel
      go_wp2
      have ho := hid (own_of_block (l := [(3, 1), (3, 0), (-1, 9), (3, 0), (-9223372036854775808, 0), (9223372036854775807, 0)]) (MapKept.heap_alloc w1 (.cells #[.int .i64 3, .int .i64 1, .int .i64 3, .int .i64 0, .int .i64 (-1), .int .i64 9, .int .i64 3, .int .i64 0, .int .i64 (-9223372036854775808), .int .i64 0, .int .i64 9223372036854775807, .int .i64 0] 26)).1 rfl)
      have hL := hid (show [((3 : Int), (1 : Int)), (3, 0), (-1, 9), (3, 0), (-9223372036854775808, 0), (9223372036854775807, 0)].length = 6 from rfl)
      have BL' := hid (alloc_below BL.out (.cells #[.int .i64 3, .int .i64 1, .int .i64 3, .int .i64 0, .int .i64 (-1), .int .i64 9, .int .i64 3, .int .i64 0, .int .i64 (-9223372036854775808), .int .i64 0, .int .i64 9223372036854775807, .int .i64 0] 26))
      generalize [((3 : Int), (1 : Int)), (3, 0), (-1, 9), (3, 0), (-9223372036854775808, 0), (9223372036854775807, 0)] = L at ho hL
      generalize w1.alloc (.cells #[.int .i64 3, .int .i64 1, .int .i64 3, .int .i64 0, .int .i64 (-1), .int .i64 9, .int .i64 3, .int .i64 0, .int .i64 (-9223372036854775808), .int .i64 0, .int .i64 9223372036854775807, .int .i64 0] 26) = W at ho BL' ⊢
      generalize w1.heap.size = g at ho ⊢
      go_loopw [7] (fun kv wr => ∃ k : Nat, kv = .int .i64 k ∧ k ≤ 7 ∧ Own wr g 0 L ∧ Below w.heap.size w wr) (fun k _ => 7 - (intOf k).toNat)
      case atStart => exact ⟨0, rfl, by omega, ho.out, BL'.out⟩
      case round =>
        clear ho BL BL'
        obtain ⟨k, rfl, hk, hown, hbel⟩ := hrel
        have OW := hid hown
        have BL := hid hbel
        by_cases hlt4 : k ≤ 6
        · have hltk : (k : Int) ≤ 6 := by omega
          have e1 : (L.take k).length = k := by rw [List.length_take, hL.out]; omega
          have e2 : (L.drop k).length = 6 - k := by rw [List.length_drop, hL.out]
          have hc1 := list_any (some ⟨g, 0, none⟩) 6 (L.take k) wr (by omega) (Or.inr ⟨g, 0, rfl, hown.lt, hown.row.take k⟩)
          rw [e1] at hc1
          have C1 := hid hc1
          clear hc1 e1 hown hbel
          by_cases h6 : k < 6
          · have C2 : Hid (∀ W, Own W g 0 L → Calls Try.prog 8 #[.slice (some ⟨g, k * 2, none⟩) (6 - k) (6 - k)] W fun e w' => e = .returned (.bool true) ∧ Below W.heap.size W w') := fun W ho => by
              have this := ho.row.drop k
              rw [Nat.zero_add] at this
              have hc := list_any (some ⟨g, k * 2, none⟩) (6 - k) (L.drop k) W (by omega) (Or.inr ⟨g, k * 2, rfl, ho.lt, this⟩)
              rw [e2] at hc
              exact hc
            clear e2
            go_wp2_with fail
            refine C1.out.mono ?_
            rintro e w3 ⟨rfl, hb3⟩
            have OW' := hid (OW.out.below (B := wr.heap.size) OW.out.lt hb3)
            have B3 := hid hb3
            clear hb3
            go_wp2_with fail
            refine (C2.out _ OW'.out).mono ?_
            rintro e w4 ⟨rfl, hb4⟩
            have hb := B3.out.trans (hb4.mono B3.out.size)
            have OW2 := hid (OW.out.below (B := wr.heap.size) OW.out.lt hb)
            have BL2 := hid (BL.out.trans (hb.mono BL.out.size))
            clear hb hb4
            go_wp2
            go_roundw
            case rel => exact ⟨k + 1, by go_num, by omega, OW2.out, BL2.out⟩
            case measure => simp [intOf]; omega
          · have C2 : Hid (∀ W, Own W g 0 L → Calls Try.prog 8 #[.slice (some ⟨g, 0, none⟩) 0 0] W fun e w' => e = .returned (.bool true) ∧ Below W.heap.size W w') := fun W _ => list_any (some ⟨g, 0, none⟩) 0 [] W (by simp) (Or.inl rfl)
            have h7 : 6 ≤ k := by omega
            clear e2 h6
            go_wp2_with fail
            refine C1.out.mono ?_
            rintro e w3 ⟨rfl, hb3⟩
            have OW' := hid (OW.out.below (B := wr.heap.size) OW.out.lt hb3)
            have B3 := hid hb3
            clear hb3
            go_wp2_with fail
            refine (C2.out _ OW'.out).mono ?_
            rintro e w4 ⟨rfl, hb4⟩
            have hb := B3.out.trans (hb4.mono B3.out.size)
            have OW2 := hid (OW.out.below (B := wr.heap.size) OW.out.lt hb)
            have BL2 := hid (BL.out.trans (hb.mono BL.out.size))
            clear hb hb4
            go_wp2
            go_roundw
            case rel => exact ⟨k + 1, by go_num, by omega, OW2.out, BL2.out⟩
            case measure => simp [intOf]; omega
        · have hltk : ¬ (k : Int) ≤ 6 := by omega
          clear hown hbel
          go_wp2_with fail
          refine (known_any _).mono ?_
          rintro e w4 ⟨rfl, hb4⟩
          go_wp2
          go_ret
          exact ⟨rfl, BL.out.trans (hb4.mono BL.out.size)⟩
end Go.Proofs.Ytjjahhiaelaocaa
