/- The walk of DigitsNumbers. -/
import Derived.Test.YtlckfnnjplclmaaRf
import Derived.BigFrame
namespace Go.Proofs.Ytlckfnnjplclmaa
open Go.ChangeShapes Go.WideShapes Go.ChangeAt Go.RowKit

theorem int_lit_below {w0 w w' : World} (hw : Below w0.heap.size w0 w) (h : w' = w) : Below w0.heap.size w0 w' := by rw [h]; exact hw

theorem wpList_append_want {ops : Array Oper} {rest : List Oper} {o : Oper} {a : Act} {w : World} {Q : Exit → Act → World → Prop} (hw : Region.wanted o (yielded ops a.tmps) = true) (s y : Operand)
    (ho : o.op = .call { callee := .builtin .append, args := #[s, y], argTypes := #[24, 24] })
    (base : Nat) (v x : Value) (n : Nat) (xs : List Value) (l : List Int) (hs : a.eval s = v) (hy : a.eval y = x) (hown : w.ownsRow base 3 1 v n xs) (hx : Lst w x l)
    (h63 : n + l.length ≤ 1000000) (hbase : base ≤ w.heap.size)
    (h : ∀ v' w', w'.ownsRow base 3 1 v' (n + l.length) (xs ++ row int1 l) → w.grownBy w' v.ownBlock → wpList Try.prog ops Q rest (a.put o.dst v') w') : wpList Try.prog ops Q (o :: rest) a w := by
  refine BigFrame.wpList_want hw fun _ hK => ?_
  obtain ⟨v', w', hr, h2, h3⟩ := append_lst w o.type v x n xs l hown hx h63 hbase
  unfold Oper.wp execOp
  simp only [ho, resolve, invoke, builtin, Sem.run_bind, Sem.run_pure, Result.andThen_ok, List.map_toArray, List.map_cons, List.map_nil, hs, hy, hr]
  exact hK _ _ (h v' w' h2 h3)
theorem row_base {w : World} {B B' : Nat} {e : TypeId} {z : Nat} {v : Value} {n : Nat} {xs : List Value} (h : w.ownsRow B e z v n xs) (hb : B' ≤ B) : w.ownsRow B' e z v n xs := by
  refine ⟨h.1, ?_⟩
  rcases h.2 with h' | ⟨g, cap, cur, rfl, hb', r⟩
  · exact Or.inl h'
  · exact Or.inr ⟨g, cap, cur, rfl, Nat.le_trans hb hb', r⟩
theorem make40 (X : World) : ∃ w1, (Instr.makeSlice 24 (.int .i64 40) (.int .i64 40)).run Try.prog X = .ok (.slice (some ⟨X.heap.size, 0, none⟩) 40 40) w1 ∧ w1.ownsRow X.heap.size 3 1 (.slice (some ⟨X.heap.size, 0, none⟩) 40 40) 40 (row int1 (List.replicate 40 0)) ∧ Below X.heap.size X w1 := by
  obtain ⟨i, hi, h0, h1, h2⟩ := info_parts info3i
  obtain ⟨w1, hr, ho, hg⟩ := run_make_full (P := Try.prog) (w := X) X.heap.size 24 3 i _ 1 Try.underlying24 hi h0 h1 .i64 .i64 40 (by rw [h2]; omega) (by simp [maxLen]) (Nat.le_refl _)
  refine ⟨w1, hr, ?_, hg.os, hg.tape, hg.output, hg.size, fun k hk => hg.block k hk (by simp)⟩
  rw [Nat.mul_one] at ho
  have e : (madeCells (Value.int .i64 0).cells 40).toList = List.replicate 40 (.int .i64 0) := toList_madeCells_one _ 40
  rwa [e] at ho

set_option maxRecDepth 100000 in
set_option maxHeartbeats 8000000 in
theorem numbers_walk (w : World) : Calls Try.prog 3 #[] w fun e w' => e = .returned (.bool true) ∧ Below w.heap.size w w' := by
  go_enter Try.func3, Try.ntmps3
  go_wp2_with fail
  refine (newC w).mono ?_
  rintro e w1 ⟨p, rfl, i1, b1⟩
  have I1 := hid i1
  have B1 := hid b1
  clear i1 b1
  go_wp2
  go_loopw [2, 3, 4] (fun lv sv nv wr => ∃ (m : Nat) (F : Nat → Prop), nv = .int .i64 ((m : Int) + 1) ∧ sv = .int .i64 (cs m : Int) ∧ m ≤ 4999 ∧ Hid (Lst wr lv (tn m)) ∧ Hid (IsC wr F p (tn m) (cs m)) ∧ Hid (∀ b, F b → w.heap.size ≤ b) ∧ Hid (Below w.heap.size w wr)) (fun _ _ nv _ => 5000 - (intOf nv).toNat)
  case atStart => exact ⟨0, _, rfl, rfl, by omega, hid (Lst.nil _), I1, hid (fun b e => by subst e; exact Nat.le_refl _), B1⟩
  case round =>
    obtain ⟨m, F, rfl, rfl, hm, HL, HI, HF, HB⟩ := hrel
    clear I1 B1
    by_cases hlt : m < 4999
    · have hlt' : (m : Int) + 1 < 5000 := by omega
      obtain ⟨q, hq⟩ : ∃ q, q = cq (tn m) := ⟨_, rfl⟩
      obtain ⟨s, hs⟩ : ∃ s, s = cs m := ⟨_, rfl⟩
      have q1 : q ≤ 1 := by rw [hq]; exact cq_le _
      have s1 : s ≤ m := by rw [hs]; exact cs_le _
      have HS := hid hs
      have HQ := hid hq
      rw [← hs]
      clear hs hq
      go_wp2_with fail
      refine (refInc_any _ (tn m) wr HL.out (by have := tn_len m (by omega); omega) (tn_ok m).1).mono ?_
      rintro e w2 ⟨v2, rfl, o2, b2⟩
      rw [← HQ.out]
      have I2 := hid (HI.out.below b2)
      have B2 := hid (trans_below HB.out b2)
      have O2 := hid o2
      have LTF := hid HI.out.lt
      clear o2 b2 HI HB HL
      go_wp2_with fail
      refine (incN p m F w2 I2.out (by omega)).mono ?_
      rintro e w3 ⟨rfl, i3, k3⟩
      rw [← HQ.out]
      have O3 : Hid (Own w3 wr.heap.size v2 (tn (m + 1))) := hid (own_kept O2.out k3 fun g hg hF => by have := (O2.out.lt g hg).1; have := LTF.out g hF; omega)
      have L3 := hid O3.out.lst
      have B3 := hid (kept_below B2.out HF.out k3)
      have F3 := hid (grow_ge (w' := w3) B2.out.size HF.out)
      have I3 := hid i3
      clear i3 k3 O2 O3 I2 B2
      have d1 : ((q : Int) != (q : Int)) = false := by simp
      go_wp2_with fail
      refine (all_any p _ _ _ w3 I3.out (by have := tn_len (m + 1) (by omega); omega)).mono ?_
      rintro e w4 ⟨v4, rfl, o4, b4⟩
      have L4 := hid (L3.out.below b4)
      have A4 := hid o4.lst
      have I4 := hid (I3.out.below b4)
      have B4 := hid (trans_below B3.out b4)
      clear o4 b4 L3 I3 B3
      go_wp2_with fail
      refine (sameT v4 v2 (tn (m + 1)) (tn (m + 1)) w4 A4.out L4.out (by have := tn_len (m + 1) (by omega); omega) rfl).mono ?_
      rintro e w5 ⟨rfl, b5⟩
      have L5 := hid (L4.out.below b5)
      have I5 := hid (I4.out.below b5)
      have B5 := hid (trans_below B4.out b5)
      clear b5 L4 A4 I4 B4
      have CS : Hid (cs (m + 1) = s + q) := hid (by rw [HS.out, HQ.out]; rfl)
      have VA := hid (value_any p _ _ _ w5 I5.out (by have := tn_len (m + 1) (by omega); omega))
      rw [vb_tn (by omega)] at VA
      have CA := hid (carries_any p _ _ _ w5 I5.out)
      rw [CS.out] at CA
      have RA := hid (refReg_any v2 _ w5 L5.out (by have := tn_len (m + 1) (by omega); omega))
      rw [tn_rgB (m + 1) (by omega)] at RA
      go_wp2_with fail
      refine VA.out.mono ?_
      rintro e w6 ⟨rfl, rfl⟩
      have d4 : (((m + 1 : Nat) : Int) != (m : Int) + 1) = false := by simp
      go_wp2_with fail
      refine CA.out.mono ?_
      rintro e w7 ⟨rfl, rfl⟩
      have d3 : (((s + q : Nat) : Int) != (s : Int) + (q : Int)) = false := by simp
      go_wp2_with fail
      refine RA.out.mono ?_
      rintro e w8 ⟨rfl, rfl⟩
      go_wp2
      go_roundw
      case rel => exact ⟨m + 1, _, by go_num, by rw [CS.out]; go_num, by omega, L5, I5, F3, B5⟩
      case measure => simp [intOf]; omega
    · have hlt' : ¬ (m : Int) + 1 < 5000 := by omega
      clear HL HI HF
      clear hm hlt
      go_wp2
      clear hlt'
      go_loopw [10] (fun av wx => ∃ (a : Int), av = .int .i64 a ∧ -1 ≤ a ∧ a ≤ 4 ∧ Hid (Below w.heap.size w wx)) (fun av _ => (4 - intOf av).toNat)
      case atStart => exact ⟨-1, rfl, by omega, by omega, HB⟩
      case round =>
        obtain ⟨a, rfl, ha1, ha2, HB⟩ := hrel
        by_cases ha : a < 4
        · go_wp2
          go_loopw [11] (fun bv wx => ∃ (b : Int), bv = .int .i64 b ∧ -1 ≤ b ∧ b ≤ 4 ∧ Hid (Below w.heap.size w wx)) (fun bv _ => (4 - intOf bv).toNat)
          case atStart => exact ⟨-1, rfl, by omega, by omega, HB⟩
          case round =>
            obtain ⟨b, rfl, hb1, hb2, HB⟩ := hrel
            by_cases hb : b < 4
            · go_wp2
              go_loopw [12] (fun dv wx => ∃ (d : Int), dv = .int .i64 d ∧ -1 ≤ d ∧ d ≤ 4 ∧ Hid (Below w.heap.size w wx)) (fun dv _ => (4 - intOf dv).toNat)
              case atStart => exact ⟨-1, rfl, by omega, by omega, HB⟩
              case round =>
                obtain ⟨d, rfl, hd1, hd2, HB⟩ := hrel
                by_cases hd : d < 4
                · go_wp2_with fail
                  refine (tells_any _ [a, b, d] _ (lit_lst (w := wr) [a, b, d] (by simp) #[.int .i64 a, .int .i64 b, .int .i64 d] rfl) (by simp)).mono ?_
                  rintro e w2 ⟨rfl, hw2⟩
                  have B2 := hid (int_lit_below (alloc_below HB.out _) hw2)
                  clear hw2
                  go_wp2_with fail
                  refine (tells_any _ [2, a, b, d, 2] _ (lit_lst (w := w2) [2, a, b, d, 2] (by simp) #[.int .i64 2, .int .i64 a, .int .i64 b, .int .i64 d, .int .i64 2] rfl) (by simp)).mono ?_
                  rintro e w3 ⟨rfl, hw3⟩
                  have B3 := hid (int_lit_below (alloc_below B2.out _) hw3)
                  clear hw3 B2
                  go_wp2_with fail
                  refine (tells_any _ [a, 2, b, 0, d, 1] _ (lit_lst (w := w3) [a, 2, b, 0, d, 1] (by simp) #[.int .i64 a, .int .i64 2, .int .i64 b, .int .i64 0, .int .i64 d, .int .i64 1] rfl) (by simp)).mono ?_
                  rintro e w4 ⟨rfl, hw4⟩
                  have B4 := hid (int_lit_below (alloc_below B3.out _) hw4)
                  clear hw4 B3
                  go_wp2
                  go_roundw
                  case rel => exact ⟨d + 1, by go_num, by omega, by omega, B4⟩
                  case measure => simp [intOf]; omega
                · go_wp2
                  go_roundw
                  case rel => exact ⟨b + 1, by go_num, by omega, by omega, HB⟩
                  case measure => simp [intOf]; omega
            · go_wp2
              go_roundw
              case rel => exact ⟨a + 1, by go_num, by omega, by omega, HB⟩
              case measure => simp [intOf]; omega
        · clear ha1 ha2
          obtain ⟨w2, hmk, o2, b2⟩ := make40 wr
          obtain ⟨g, hg⟩ : ∃ g, g = wr.heap.size := ⟨_, rfl⟩
          have hgb : w.heap.size ≤ g := by rw [hg]; exact HB.out.size
          have B2 := hid (trans_below HB.out b2)
          have O2 := hid (row_base o2 (B' := w.heap.size) HB.out.size)
          rw [← hg] at hmk O2
          have c2 : w2.cell? ⟨g, 39, none⟩ = some (.int .i64 0) := own_cell O2.out 39 0 (by omega) rfl
          have z2 : w2.frozen? ⟨g, 39, none⟩ = false := O2.out.frozenAt _
          have hg2 : g < w2.heap.size := (O2.out.lt g rfl).2
          clear o2 b2 hg
          go_upto_region 28 with fail
          obtain ⟨w3, hw3⟩ : ∃ w3, w3 = w2.setCell ⟨g, 39, none⟩ (.int .i64 2) := ⟨_, rfl⟩
          rw [← hw3]
          have O3 := hid (own_store O2.out 39 2)
          have B3 := hid (below_store (p := ⟨g, 39, none⟩) (u := .int .i64 2) B2.out hgb)
          rw [← hw3] at O3 B3
          obtain ⟨L, hL⟩ : ∃ L, L = (List.replicate 40 (0 : Int)).set 39 2 := ⟨_, rfl⟩
          have LN : L.length = 40 := by rw [hL]; rfl
          rw [← hL] at O3
          have O4 : Hid (Own w3 w.heap.size (.slice (some ⟨g, 0, none⟩) 40 40) L) := hid (by unfold Own; rw [LN]; exact O3.out)
          have HLN := hid LN
          clear hw3 hmk c2 z2 hg2 O2 B2 HB hL LN
          go_wp2_with fail
          refine (tells_any _ [] w3 (Lst.nil _) (by simp)).mono ?_
          rintro e w4 ⟨rfl, rfl⟩
          go_wp2_with fail
          refine (tells_any _ L w4 O4.out.lst (by have := HLN.out; omega)).mono ?_
          rintro e w5 ⟨rfl, rfl⟩
          go_wp2_with (at_builtin; (refine wpList_append_want rfl (.tmp 114) (.tmp 115) rfl w.heap.size (.slice (some ⟨g, 0, none⟩) 40 40) _ 40 (row int1 L) [1] rfl rfl (World.ownsRow.alloc O3.out _) (lit_lst (w := w5) [1] (by simp) #[.int .i64 1] rfl) (by simp) (by have := B3.out.size; simp; omega) ?_; intro v6 w6 o6 g6; have B6 := hid (below_grown (w0 := w) (World.ownsRow.alloc O3.out _) g6 (alloc_below B3.out _)); have O6 : Hid (Own w6 w.heap.size v6 (L ++ [1])) := hid (by unfold Own; rw [row_append, List.length_append, HLN.out]; exact o6); clear o6 g6))
          refine (tells_any _ (L ++ [1]) w6 O6.out.lst (by rw [List.length_append, HLN.out]; simp)).mono ?_
          rintro e w7 ⟨rfl, rfl⟩
          go_wp2_with fail
          refine (tells_any _ [1, 0] _ (lit_lst (w := w7) [1, 0] (by simp) #[.int .i64 1, .int .i64 0] rfl) (by simp)).mono ?_
          rintro e w8 ⟨rfl, hw8⟩
          have B8 := hid (int_lit_below (alloc_below B6.out _) hw8)
          clear hw8 B6
          go_wp2_with fail
          refine (known_any w8).mono ?_
          rintro e w9 ⟨rfl, b9⟩
          have B9 := hid (trans_below B8.out b9)
          clear b9
          go_wp2
          go_ret
          exact ⟨rfl, B9.out⟩
end Go.Proofs.Ytlckfnnjplclmaa
