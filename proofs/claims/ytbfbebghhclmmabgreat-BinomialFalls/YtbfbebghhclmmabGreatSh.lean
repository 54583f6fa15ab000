/- The laws' shape. -/
import Derived.Test.YtbfbebghhclmmabGreatWt
import Derived.Test.YtbfbebghhclmmabGreatWu
import Derived.Lib.RabinKarpLaws
namespace Go.Proofs.YtbfbebghhclmmabGreat
open Go.ChangeShapes Go.WideShapes Go.ChangeAt Go.RowKit
open Tr

/-- how many nodes trees of these Ranks have, in 2^k each -/
def valk (k : Nat) : List Bn → Nat
  | [] => 0
  | b :: r => 2 ^ (b.rk - k) + valk k r
theorem valk_even {f : Nat → Nat → Int} {k : Nat} : ∀ {l : Int} {r : List Bn}, (k : Int) ≤ l → Chn f l r → valk k r = 2 * valk (k + 1) r
  | _, [], _, _ => rfl
  | l, b :: r, hl, h => by
    have h1 := h.1
    have ih := valk_even (k := k) (l := (b.rk : Int)) (r := r) (by omega) h.2.2
    simp only [valk]
    rw [ih, show b.rk - k = (b.rk - (k + 1)) + 1 by omega, Nat.pow_succ]
    omega
theorem valk_zero {k : Nat} : ∀ {r : List Bn}, valk k r = 0 → r = []
  | [], _ => rfl
  | b :: r, h => by
    have := Nat.two_pow_pos (b.rk - k)
    simp only [valk] at h
    omega
theorem valk_all {s : St} {t : List Bn} (hns : ¬ Sgl) (h : ∀ b ∈ t, Kd b.k) : (its t).length = valk 0 t := by
  have _ := s
  induction t with
  | nil => rfl
  | cons b r ih =>
    have h1 := kd_exact b.k (h b (by simp)) hns
    have h2 := ih fun c hc => h c (by simp [hc])
    unfold its at h2 ⊢
    rw [List.flatMap_cons, List.length_append, h2]
    simp only [valk, Bn.items, List.length_cons, size_items, Bn.rk, Nat.sub_zero]
    omega
theorem chn_low {f : Nat → Nat → Int} {l l' : Int} {b : Bn} {r : List Bn} (h : Chn f l (b :: r)) (hl : l' < (b.rk : Int)) : Chn f l' (b :: r) := ⟨hl, h.2.1, h.2.2⟩
theorem bit_one (n k : Nat) (hn : n ≤ 1000) : bits BinOp.and IntKind.i64 ((n : Int) / 2 ^ k) 1 = ((n / 2 ^ k % 2 : Nat) : Int) := by
  have e : ((n : Int) / 2 ^ k) = ((n / 2 ^ k : Nat) : Int) := by rw [Int.natCast_ediv]; congr 1
  rw [e]
  exact and_one _ (Nat.lt_of_le_of_lt (Nat.div_le_self _ _) (by omega))

set_option maxHeartbeats 4000000 in
theorem shape0 {w0 : Fm} {w : World} {F : Nat → Prop} {pw pa pm : Nat} {v0 v1 : Value} {s : St} {t u : List Bn} {L0 L1 : List (Nat × Int × Int)} {nx sp mo : Int} (h : Wx w0 w F pw pa pm v0 v1 s (headr t) (headr u) L0 L1 nx sp mo) (hi : Inv s t u L0 L1) (hns : ¬ Sgl) (hl : L0.length ≤ 1000) (hs : s.steps ≤ 70000000) :
    Calls Tryz.prog 34 #[.pointer (some ⟨pw, 0, none⟩), .int .i64 0] w fun e w' => e = .returned (.bool true) ∧ ∃ k, k ≤ 9 * L0.length ∧ Ex F w w' pa pm (tk s k) := by
  have HW := hid h
  have WN := hid (fun b hb => wn_of hi.a (b := b) hb)
  have RK := hid hi.a.gd.rk
  have VB := hid (fun b hb => (hi.a.gd.vb b hb).1)
  have OK := hid hi.ok
  have CH := hid hi.a.gd.ch
  have LEN := hid hi.a.len
  have VAL := hid (show L0.length / 2 ^ 0 = valk 0 t by rw [← valk_all (s := s) hns (fun b hb => (hi.a.gd.vb b hb).2.1), hi.a.len]; simp)
  have TR := hid (fun b w k0 top hb hr hw hk ht hst => tree0 (w0 := w0) (F := F) (pw := pw) (pa := pa) (pm := pm) (v0 := v0) (v1 := v1) (r0 := headr t) (r1 := headr u) (L0 := L0) (L1 := L1) (nx := nx) (sp := sp) (mo := mo) hi.ok hns hl (b.k.size + 1) b w k0 (-1) (0, 0, 0) top hb hr hw hk ht hst)
  obtain ⟨va, vc, hv'⟩ := h.l0.form
  subst hv'
  obtain ⟨c0, c1, c2, c3, c4, c5, c6, c7, cf⟩ := h.cells
  have hlt := h.lt
  have E0 := hid (Ex.start h.is)
  have tk0 : tk s 0 = s := rfl
  obtain ⟨n0, hn0⟩ : ∃ z, z = L0.length := ⟨_, rfl⟩
  have HN0 := hid hn0
  rw [← hn0] at hl VAL LEN c3 ⊢
  clear h hi c0 c5 c6 c7 cf hn0 hns
  go_enter Tryz.func34, Tryz.ntmps34
  go_wp2_with fail
  go_loopw [6, 7] (fun nv kv wr => ∃ (k j : Nat) (r : List Bn), kv = .int .i64 (k : Int) ∧ nv = .int .i64 (headr r) ∧ k ≤ 12 ∧ Hid (Chn (hasS s) ((k : Int) - 1) r) ∧ Hid (∀ b ∈ r, b ∈ t) ∧ Hid (n0 / 2 ^ k = valk k r) ∧ j + 9 * (its r).length ≤ 9 * n0 ∧ Hid (Ex F w wr pa pm (tk s j))) (fun _ kv _ => 12 - (intOf kv).toNat)
  case atStart => exact ⟨0, 0, t, rfl, rfl, by omega, CH, hid (fun b hb => hb), VAL, by rw [LEN.out]; omega, E0⟩
  case round =>
    clear E0 CH VAL
    obtain ⟨k, j, r, rfl, rfl, hk, hch, hin, hval, hj, hE⟩ := hrel
    by_cases h12 : k < 12
    · have h12' : (k : Int) < 12 := by omega
      have hbit := bit_one n0 k hl
      have NXT := hid (show n0 / 2 ^ (k + 1) = n0 / 2 ^ k / 2 by rw [Nat.pow_succ, Nat.div_div_eq_div_mul])
      have WR := hid (HW.out.ex hE.out)
      by_cases hb : n0 / 2 ^ k % 2 = 0
      · have hb0 : (bits BinOp.and IntKind.i64 ((n0 : Int) / 2 ^ k) 1 == 0) = true := by rw [hbit, hb]; rfl
        -- the first tree, if there is one, is greater
        have CN := hid (show Chn (hasS s) (((k + 1 : Nat) : Int) - 1) r ∧ n0 / 2 ^ (k + 1) = valk (k + 1) r by
          cases r with
          | nil => exact ⟨trivial, by rw [NXT.out, hval.out]; simp [valk]⟩
          | cons b r' =>
            have hc := hch.out
            have hgt : (k : Int) < (b.rk : Int) := by
              have h1 := hc.1
              have h2 : ¬ b.rk = k := fun e => by
                have hv := hval.out
                have ev := valk_even (k := k) (l := (b.rk : Int)) (r := r') (by omega) hc.2.2
                simp only [valk] at hv
                rw [e, Nat.sub_self, Nat.pow_zero] at hv
                rw [ev] at hv
                omega
              omega
            have hc2 : Chn (hasS s) (k : Int) (b :: r') := chn_low hc hgt
            refine ⟨by rw [show (((k + 1 : Nat) : Int) - 1) = (k : Int) by omega]; exact hc2, ?_⟩
            rw [NXT.out, hval.out, valk_even (Int.le_refl _) hc2]
            omega)
        clear hbit hb hch hval NXT WR
        go_wp2
        go_roundw
        case rel => exact ⟨k + 1, j, r, by go_num, rfl, by omega, hid CN.out.1, hin, hid CN.out.2, hj, hE⟩
        case measure => simp [intOf]; omega
      · have hb1 : (bits BinOp.and IntKind.i64 ((n0 : Int) / 2 ^ k) 1 == 0) = false := by
          rw [hbit]
          have : n0 / 2 ^ k % 2 = 1 := by omega
          rw [this]; rfl
        cases r with
        | nil =>
          exfalso
          have hv := hval.out
          simp only [valk] at hv
          omega
        | cons b r' =>
          have hc := hch.out
          have heq : b.rk = k := by
            have h1 := hc.1
            rcases Nat.lt_or_ge k b.rk with q | q
            · exfalso
              have hv := hval.out
              rw [valk_even (Int.le_refl (k : Int)) (chn_low hc (by omega))] at hv
              omega
            · omega
          have hbt := hin.out b (by simp)
          have C2 := hid (show Chn (hasS s) (((k + 1 : Nat) : Int) - 1) r' ∧ n0 / 2 ^ (k + 1) = valk (k + 1) r' by
            have h3 := hc.2.2
            rw [heq] at h3
            refine ⟨by rw [show (((k + 1 : Nat) : Int) - 1) = (k : Int) by omega]; exact h3, ?_⟩
            have hv := hval.out
            simp only [valk] at hv
            rw [heq, Nat.sub_self, Nat.pow_zero, valk_even (Int.le_refl _) h3] at hv
            rw [NXT.out, hv]
            omega)
          have hlen : (its (b :: r')).length = b.k.size + 1 + (its r').length := by
            unfold its
            rw [List.flatMap_cons, List.length_append]
            simp only [Bn.items, List.length_cons, size_items]
          rw [hlen] at hj
          have T := hid (TR.out b wr j true (by omega) (by omega) WR.out (WN.out b hbt) (Or.inl rfl) (by omega))
          rw [heq] at T
          unfold hv at T
          have CR := hid (show cellS s (b.n : Int) 3 = headr r' by
            have h3 := hc.2.1
            cases r' with
            | nil => exact cell_neg (j := 3) (VB.out b hbt).ln (by decide) h3
            | cons c r'' => exact cell_nat (j := 3) OK.out (VB.out b hbt).ln (by decide) h3 (VB.out c (hin.out c (by simp))).ln)
          have IN := hid (fun c (hc : c ∈ r') => hin.out c (by simp [hc]))
          have hbn : ((b.n : Int) == -1) = false := by simp
          rw [headr_cons]
          clear hbit hb hch hval NXT hc heq hbt hin hlen
          go_wp2_with fail
          refine T.out.mono ?_
          rintro e w9 ⟨rfl, k9, hk9, e9⟩
          have X9 := hid (hE.out.stay e9.is e9.kept)
          have W9 := hid (HW.out.ex X9.out)
          clear e9 T WR hE
          obtain ⟨d0, _, _, _, _, _, _, _, _⟩ := W9.out.cells
          have C5 := hid (cellT (b.n : Int) 3 (Ex.start X9.out.is) (by show s.steps + k9 ≤ _; omega))
          rw [show cellS (tk s k9) (b.n : Int) 3 = headr r' from CR.out] at C5
          go_wp2_with fail
          refine C5.out.mono ?_
          rintro e w10 ⟨rfl, e10⟩
          have X10 := hid (show Ex F w w10 pa pm (tk s (k9 + 1)) by rw [← tk_tk]; exact X9.out.stay e10.is e10.kept)
          clear e10 C5 X9 W9 d0
          go_wp2
          go_roundw
          case rel => exact ⟨k + 1, k9 + 1, r', by go_num, rfl, by omega, hid C2.out.1, IN, hid C2.out.2, by omega, X10⟩
          case measure => simp [intOf]; omega
    · obtain rfl : k = 12 := by omega
      have hr : r = [] := valk_zero (k := 12) (by rw [← hval.out]; exact Nat.div_eq_of_lt (by omega))
      subst hr
      rw [headr_nil]
      clear hch hval
      go_wp2
      go_ret
      exact ⟨rfl, j, by simp [its] at hj; omega, hE.out⟩

set_option maxHeartbeats 4000000 in
theorem shape1 {w0 : Fm} {w : World} {F : Nat → Prop} {pw pa pm : Nat} {v0 v1 : Value} {s : St} {t u : List Bn} {L0 L1 : List (Nat × Int × Int)} {nx sp mo : Int} (h : Wx w0 w F pw pa pm v0 v1 s (headr t) (headr u) L0 L1 nx sp mo) (hi : Inv s t u L0 L1) (hns : ¬ Sgl) (hl : L1.length ≤ 1000) (hs : s.steps ≤ 70000000) :
    Calls Tryz.prog 34 #[.pointer (some ⟨pw, 0, none⟩), .int .i64 1] w fun e w' => e = .returned (.bool true) ∧ ∃ k, k ≤ 9 * L1.length ∧ Ex F w w' pa pm (tk s k) := by
  have HW := hid h
  have WN := hid (fun b hb => wn_of hi.b (b := b) hb)
  have RK := hid hi.b.gd.rk
  have VB := hid (fun b hb => (hi.b.gd.vb b hb).1)
  have OK := hid hi.ok
  have CH := hid hi.b.gd.ch
  have LEN := hid hi.b.len
  have VAL := hid (show L1.length / 2 ^ 0 = valk 0 u by rw [← valk_all (s := s) hns (fun b hb => (hi.b.gd.vb b hb).2.1), hi.b.len]; simp)
  have TR := hid (fun b w k0 top hb hr hw hk ht hst => tree1 (w0 := w0) (F := F) (pw := pw) (pa := pa) (pm := pm) (v0 := v0) (v1 := v1) (r0 := headr t) (r1 := headr u) (L0 := L0) (L1 := L1) (nx := nx) (sp := sp) (mo := mo) hi.ok hns hl (b.k.size + 1) b w k0 (-1) (0, 0, 0) top hb hr hw hk ht hst)
  obtain ⟨va, vc, hv'⟩ := h.l1.form
  subst hv'
  obtain ⟨c0, c1, c2, c3, c4, c5, c6, c7, cf⟩ := h.cells
  have hlt := h.lt
  have E0 := hid (Ex.start h.is)
  have tk0 : tk s 0 = s := rfl
  obtain ⟨n0, hn0⟩ : ∃ z, z = L1.length := ⟨_, rfl⟩
  have HN0 := hid hn0
  rw [← hn0] at hl VAL LEN c4 ⊢
  clear h hi c0 c5 c6 c7 cf hn0 hns
  go_enter Tryz.func34, Tryz.ntmps34
  go_wp2_with fail
  go_loopw [6, 7] (fun nv kv wr => ∃ (k j : Nat) (r : List Bn), kv = .int .i64 (k : Int) ∧ nv = .int .i64 (headr r) ∧ k ≤ 12 ∧ Hid (Chn (hasS s) ((k : Int) - 1) r) ∧ Hid (∀ b ∈ r, b ∈ u) ∧ Hid (n0 / 2 ^ k = valk k r) ∧ j + 9 * (its r).length ≤ 9 * n0 ∧ Hid (Ex F w wr pa pm (tk s j))) (fun _ kv _ => 12 - (intOf kv).toNat)
  case atStart => exact ⟨0, 0, u, rfl, rfl, by omega, CH, hid (fun b hb => hb), VAL, by rw [LEN.out]; omega, E0⟩
  case round =>
    clear E0 CH VAL
    obtain ⟨k, j, r, rfl, rfl, hk, hch, hin, hval, hj, hE⟩ := hrel
    by_cases h12 : k < 12
    · have h12' : (k : Int) < 12 := by omega
      have hbit := bit_one n0 k hl
      have NXT := hid (show n0 / 2 ^ (k + 1) = n0 / 2 ^ k / 2 by rw [Nat.pow_succ, Nat.div_div_eq_div_mul])
      have WR := hid (HW.out.ex hE.out)
      by_cases hb : n0 / 2 ^ k % 2 = 0
      · have hb0 : (bits BinOp.and IntKind.i64 ((n0 : Int) / 2 ^ k) 1 == 0) = true := by rw [hbit, hb]; rfl
        -- the first tree, if there is one, is greater
        have CN := hid (show Chn (hasS s) (((k + 1 : Nat) : Int) - 1) r ∧ n0 / 2 ^ (k + 1) = valk (k + 1) r by
          cases r with
          | nil => exact ⟨trivial, by rw [NXT.out, hval.out]; simp [valk]⟩
          | cons b r' =>
            have hc := hch.out
            have hgt : (k : Int) < (b.rk : Int) := by
              have h1 := hc.1
              have h2 : ¬ b.rk = k := fun e => by
                have hv := hval.out
                have ev := valk_even (k := k) (l := (b.rk : Int)) (r := r') (by omega) hc.2.2
                simp only [valk] at hv
                rw [e, Nat.sub_self, Nat.pow_zero] at hv
                rw [ev] at hv
                omega
              omega
            have hc2 : Chn (hasS s) (k : Int) (b :: r') := chn_low hc hgt
            refine ⟨by rw [show (((k + 1 : Nat) : Int) - 1) = (k : Int) by omega]; exact hc2, ?_⟩
            rw [NXT.out, hval.out, valk_even (Int.le_refl _) hc2]
            omega)
        clear hbit hb hch hval NXT WR
        go_wp2
        go_roundw
        case rel => exact ⟨k + 1, j, r, by go_num, rfl, by omega, hid CN.out.1, hin, hid CN.out.2, hj, hE⟩
        case measure => simp [intOf]; omega
      · have hb1 : (bits BinOp.and IntKind.i64 ((n0 : Int) / 2 ^ k) 1 == 0) = false := by
          rw [hbit]
          have : n0 / 2 ^ k % 2 = 1 := by omega
          rw [this]; rfl
        cases r with
        | nil =>
          exfalso
          have hv := hval.out
          simp only [valk] at hv
          omega
        | cons b r' =>
          have hc := hch.out
          have heq : b.rk = k := by
            have h1 := hc.1
            rcases Nat.lt_or_ge k b.rk with q | q
            · exfalso
              have hv := hval.out
              rw [valk_even (Int.le_refl (k : Int)) (chn_low hc (by omega))] at hv
              omega
            · omega
          have hbt := hin.out b (by simp)
          have C2 := hid (show Chn (hasS s) (((k + 1 : Nat) : Int) - 1) r' ∧ n0 / 2 ^ (k + 1) = valk (k + 1) r' by
            have h3 := hc.2.2
            rw [heq] at h3
            refine ⟨by rw [show (((k + 1 : Nat) : Int) - 1) = (k : Int) by omega]; exact h3, ?_⟩
            have hv := hval.out
            simp only [valk] at hv
            rw [heq, Nat.sub_self, Nat.pow_zero, valk_even (Int.le_refl _) h3] at hv
            rw [NXT.out, hv]
            omega)
          have hlen : (its (b :: r')).length = b.k.size + 1 + (its r').length := by
            unfold its
            rw [List.flatMap_cons, List.length_append]
            simp only [Bn.items, List.length_cons, size_items]
          rw [hlen] at hj
          have T := hid (TR.out b wr j true (by omega) (by omega) WR.out (WN.out b hbt) (Or.inl rfl) (by omega))
          rw [heq] at T
          unfold hv at T
          have CR := hid (show cellS s (b.n : Int) 3 = headr r' by
            have h3 := hc.2.1
            cases r' with
            | nil => exact cell_neg (j := 3) (VB.out b hbt).ln (by decide) h3
            | cons c r'' => exact cell_nat (j := 3) OK.out (VB.out b hbt).ln (by decide) h3 (VB.out c (hin.out c (by simp))).ln)
          have IN := hid (fun c (hc : c ∈ r') => hin.out c (by simp [hc]))
          have hbn : ((b.n : Int) == -1) = false := by simp
          rw [headr_cons]
          clear hbit hb hch hval NXT hc heq hbt hin hlen
          go_wp2_with fail
          refine T.out.mono ?_
          rintro e w9 ⟨rfl, k9, hk9, e9⟩
          have X9 := hid (hE.out.stay e9.is e9.kept)
          have W9 := hid (HW.out.ex X9.out)
          clear e9 T WR hE
          obtain ⟨d0, _, _, _, _, _, _, _, _⟩ := W9.out.cells
          have C5 := hid (cellT (b.n : Int) 3 (Ex.start X9.out.is) (by show s.steps + k9 ≤ _; omega))
          rw [show cellS (tk s k9) (b.n : Int) 3 = headr r' from CR.out] at C5
          go_wp2_with fail
          refine C5.out.mono ?_
          rintro e w10 ⟨rfl, e10⟩
          have X10 := hid (show Ex F w w10 pa pm (tk s (k9 + 1)) by rw [← tk_tk]; exact X9.out.stay e10.is e10.kept)
          clear e10 C5 X9 W9 d0
          go_wp2
          go_roundw
          case rel => exact ⟨k + 1, k9 + 1, r', by go_num, rfl, by omega, hid C2.out.1, IN, hid C2.out.2, by omega, X10⟩
          case measure => simp [intOf]; omega
    · obtain rfl : k = 12 := by omega
      have hr : r = [] := valk_zero (k := 12) (by rw [← hval.out]; exact Nat.div_eq_of_lt (by omega))
      subst hr
      rw [headr_nil]
      clear hch hval
      go_wp2
      go_ret
      exact ⟨rfl, j, by simp [its] at hj; omega, hE.out⟩
end Go.Proofs.YtbfbebghhclmmabGreat
