/- The laws' shape. -/
import Derived.Test.YteibfnclillnnabGreatWt
import Derived.Test.YteibfnclillnnabGreatWu
namespace Go.Proofs.YteibfnclillnnabGreat
open Go.ChangeShapes Go.WideShapes Go.ChangeAt Go.RowKit
open Tr

set_option maxHeartbeats 4000000 in
theorem shape0 {w0 : Fm} {w : World} {F : Nat → Prop} {pw pa pm : Nat} {v0 v1 : Value} {s : St} {t u : List Bn} {L0 L1 : List (Nat × Int × Int)} {nx sp mo : Int} (h : Wx w0 w F pw pa pm v0 v1 s (headr t) (headr u) L0 L1 nx sp mo) (hi : Inv s t u L0 L1) (hl : L0.length ≤ 1000) (hs : s.steps ≤ 70000000) :
    Calls Tryz.prog 38 #[.pointer (some ⟨pw, 0, none⟩), .int .i64 0] w fun e w' => e = .returned (.bool true) ∧ ∃ k, k ≤ 10 * L0.length ∧ Ex F w w' pa pm (tk s k) := by
  have HW := hid h
  have WN := hid (fun b hb => wn_of hi.a (b := b) hb)
  have SM := hi.a.gd.small (by show (its t).length ≤ _; have := hi.a.len; omega)
  have hl11 : t.length ≤ 11 := SM.2
  have RK := hid SM.1
  have VB := hid (fun b hb => (hi.a.gd.vb b hb).1)
  have OK := hid hi.ok
  have CH := hid hi.a.gd.ch
  have LEN := hid hi.a.len
  have TR := hid (fun b w k0 top hb hr hw hk ht hst => tree0 (w0 := w0) (F := F) (pw := pw) (pa := pa) (pm := pm) (v0 := v0) (v1 := v1) (r0 := headr t) (r1 := headr u) (L0 := L0) (L1 := L1) (nx := nx) (sp := sp) (mo := mo) hi.ok hl (b.k.size + 1) b w k0 (-1) (0, 0, 0) top hb hr hw hk ht hst)
  obtain ⟨va, vc, hv'⟩ := h.l0.form
  subst hv'
  obtain ⟨c0, c1, c2, c3, c4, c5, c6, c7, cf⟩ := h.cells
  have hlt := h.lt
  have E0 := hid (Ex.start h.is)
  have tk0 : tk s 0 = s := rfl
  obtain ⟨n0, hn0⟩ : ∃ z, z = L0.length := ⟨_, rfl⟩
  have HN0 := hid hn0
  rw [← hn0] at hl LEN c3 ⊢
  clear h hi c0 c5 c6 c7 cf hn0 SM
  go_enter Tryz.func38, Tryz.ntmps38
  go_wp2_with fail
  go_loopw [5, 6, 7, 8] (fun nv av lv iv wr => ∃ (i j al : Nat) (la : Int) (r : List Bn), nv = .int .i64 (headr r) ∧ av = .int .i64 (al : Int) ∧ lv = .int .i64 la ∧ iv = .int .i64 (i : Int) ∧ i + r.length ≤ 11 ∧ -1 ≤ la ∧ la ≤ 9 ∧ Hid (Chs (hasS s) i la r) ∧ Hid (∀ b ∈ r, b ∈ t) ∧ al + (its r).length ≤ n0 ∧ n0 ≤ al + (its r).length ∧ j + 10 * (its r).length ≤ 10 * n0 ∧ Hid (Ex F w wr pa pm (tk s j))) (fun _ _ _ iv _ => 40 - (intOf iv).toNat)
  case atStart => exact ⟨0, 0, 0, -1, t, rfl, rfl, rfl, rfl, by omega, by omega, by omega, CH, hid (fun b hb => hb), by have := LEN.out; omega, by have := LEN.out; omega, by have := LEN.out; omega, E0⟩
  case round =>
    clear E0 CH
    obtain ⟨i, j, al, la, r, rfl, rfl, rfl, rfl, hil, hla, hlb, hch, hin, ha1, ha2, hj, hE⟩ := hrel
    cases r with
    | nil =>
      have WR := hid (HW.out.ex hE.out)
      obtain ⟨d0, d1, d2, d3, d4, _, _, _, _⟩ := WR.out.cells
      rw [← HN0.out] at d3
      rw [headr_nil]
      have hal : ((al : Int) == (n0 : Int)) = true := by simp [its] at ha1 ha2 ⊢; omega
      have hi40 : (i : Int) < 40 := by omega
      clear hch hin ha1 ha2 hil hla hlb
      clear d0 d1 d2 d4 c1 c2 c3 c4
      go_wp2
      go_ret
      exact ⟨rfl, j, by omega, hE.out⟩
    | cons b r' =>
      have hc := hch.out
      have hbt := hin.out b (by simp)
      have hb9 := RK.out b hbt
      obtain ⟨m, hm⟩ : ∃ m, m = b.rk := ⟨_, rfl⟩
      have HM := hid hm
      have C2 := hid (show Chs (hasS s) (i + 1) (m : Int) r' by rw [hm]; exact hc.2.2)
      have hcase : la < (m : Int) ∨ (i = 1 ∧ la = (m : Int)) := by rw [hm]; exact hc.1
      have hlen : (its (b :: r')).length = b.k.size + 1 + (its r').length := by
        unfold its
        rw [List.flatMap_cons, List.length_append]
        simp only [Bn.items, List.length_cons, size_items]
      rw [hlen] at hj ha1 ha2
      obtain ⟨y2, hy2⟩ : ∃ y2, y2 = b.k.size + 1 := ⟨_, rfl⟩
      have HY2 := hid hy2
      rw [← hy2] at hj ha1 ha2
      have hi40 : (i : Int) < 40 := by simp only [List.length_cons] at hil; omega
      have hil' : i + 1 + r'.length ≤ 11 := by simp only [List.length_cons] at hil; omega
      have hm9 : m ≤ 9 := by omega
      have hy1 : 1 ≤ y2 := by omega
      have hy0 : ((y2 : Int) == 0) = false := by simp; omega
      have hd1 : decide ((m : Int) < la) = false := by simp; omega
      have hwz : IntKind.i64.wrap ((al : Int) + (y2 : Int)) = ((al + y2 : Nat) : Int) := by rw [IntWalk.i64_in _ (by omega)]; omega
      have CR := hid (show cellS s (b.n : Int) 3 = headr r' by
        have h3 := hc.2.1
        cases r' with
        | nil => exact cell_neg (j := 3) (VB.out b hbt).ln (by decide) h3
        | cons c r'' => exact cell_nat (j := 3) OK.out (VB.out b hbt).ln (by decide) h3 (VB.out c (hin.out c (by simp))).ln)
      have IN := hid (fun c (hc : c ∈ r') => hin.out c (by simp [hc]))
      have hbn : ((b.n : Int) == -1) = false := by simp
      have G2 := hid (getT (b.n : Int) 4 (Ex.start hE.out.is) (by show s.steps + j ≤ _; omega))
      rw [show getS (tk s j) (b.n : Int) 4 = (m : Int) by rw [hm]; exact (get_nat (j := 4) (VB.out b hbt).ln (by decide)).trans (VB.out b hbt).vn.rank] at G2
      have WNB := hid (WN.out b hbt)
      have WR := hid (HW.out.ex hE.out)
      obtain ⟨d0, _, _, _, _, _, _, _, _⟩ := WR.out.cells
      rw [headr_cons]
      clear hch hc hbt hin hlen hm hy2 c1 c2 c3 c4 hil hb9
      have fin : ∀ w9 : World, Hid (Ex F w w9 pa pm (tk s (j + 1))) → Hid (Calls Tryz.prog 58 #[.pointer (some ⟨pw, 0, none⟩), .int .i64 0, .int .i64 (b.n : Int), .int .i64 (-1), .agg #[.int .i64 0, .int .i64 0, .int .i64 0], .bool true] w9 fun e w' => e = .returned (.int .i64 (y2 : Int)) ∧ ∃ k, k ≤ j + 1 + (8 + 10 * b.k.size) ∧ Ex F w9 w' pa pm (tk s k)) := fun w9 X9 => hid (by
        have T := TR.out b w9 (j + 1) true (by omega) (by have := HY2.out; have := HN0.out; omega) (HW.out.ex X9.out) WNB.out (Or.inl rfl) (by have := HY2.out; omega)
        rw [← HY2.out] at T
        exact T)
      go_wp2_with fail
      refine G2.out.mono ?_
      rintro e w9 ⟨rfl, e9⟩
      have X9 := hid (show Ex F w w9 pa pm (tk s (j + 1)) by rw [← tk_tk]; exact hE.out.stay e9.is e9.kept)
      have W9 := hid (HW.out.ex X9.out)
      have T := fin w9 X9
      clear e9 G2 hE WR d0 fin
      go_wp2_with fail
      refine T.out.mono ?_
      rintro e w10 ⟨rfl, k9, hk9, e10⟩
      have X10 := hid (X9.out.stay e10.is e10.kept)
      have W10 := hid (HW.out.ex X10.out)
      have HK9 := hid (show k9 ≤ j + 1 + (8 + 10 * b.k.size) from hk9)
      clear e10 T X9 W9 hk9
      obtain ⟨d0, _, _, _, _, _, _, _, _⟩ := W10.out.cells
      have C5 := hid (cellT (b.n : Int) 3 (Ex.start X10.out.is) (by show s.steps + k9 ≤ _; have := HK9.out; have := HY2.out; omega))
      rw [show cellS (tk s k9) (b.n : Int) 3 = headr r' from CR.out] at C5
      by_cases q : la < (m : Int)
      · have hne : ((m : Int) == la) = false := by simp; omega
        clear hcase q
        go_wp2_with fail
        refine C5.out.mono ?_
        rintro e w11 ⟨rfl, e11⟩
        have X11 := hid (show Ex F w w11 pa pm (tk s (k9 + 1)) by rw [← tk_tk]; exact X10.out.stay e11.is e11.kept)
        clear e11 C5 X10 W10 d0
        go_wp2
        go_roundw
        case rel => exact ⟨i + 1, k9 + 1, al + y2, (m : Int), r', rfl, rfl, rfl, by go_num, hil', by omega, by omega, C2, IN, by omega, by omega, by have := HK9.out; have := HY2.out; omega, X11⟩
        case measure => simp [intOf]; omega
      · obtain ⟨rfl, hle⟩ := hcase.resolve_left q
        have HLE := hid hle
        have hne : ((m : Int) == la) = true := by simp; omega
        clear hcase q hle
        go_wp2_with fail
        refine C5.out.mono ?_
        rintro e w11 ⟨rfl, e11⟩
        have X11 := hid (show Ex F w w11 pa pm (tk s (k9 + 1)) by rw [← tk_tk]; exact X10.out.stay e11.is e11.kept)
        clear e11 C5 X10 W10 d0
        go_wp2
        go_roundw
        case rel => exact ⟨2, k9 + 1, al + y2, (m : Int), r', rfl, rfl, rfl, by go_num, hil', by omega, by omega, C2, IN, by omega, by omega, by have := HK9.out; have := HY2.out; omega, X11⟩
        case measure => simp [intOf]

set_option maxHeartbeats 4000000 in
theorem shape1 {w0 : Fm} {w : World} {F : Nat → Prop} {pw pa pm : Nat} {v0 v1 : Value} {s : St} {t u : List Bn} {L0 L1 : List (Nat × Int × Int)} {nx sp mo : Int} (h : Wx w0 w F pw pa pm v0 v1 s (headr t) (headr u) L0 L1 nx sp mo) (hi : Inv s t u L0 L1) (hl : L1.length ≤ 1000) (hs : s.steps ≤ 70000000) :
    Calls Tryz.prog 38 #[.pointer (some ⟨pw, 0, none⟩), .int .i64 1] w fun e w' => e = .returned (.bool true) ∧ ∃ k, k ≤ 10 * L1.length ∧ Ex F w w' pa pm (tk s k) := by
  have HW := hid h
  have WN := hid (fun b hb => wn_of hi.b (b := b) hb)
  have SM := hi.b.gd.small (by show (its u).length ≤ _; have := hi.b.len; omega)
  have hl11 : u.length ≤ 11 := SM.2
  have RK := hid SM.1
  have VB := hid (fun b hb => (hi.b.gd.vb b hb).1)
  have OK := hid hi.ok
  have CH := hid hi.b.gd.ch
  have LEN := hid hi.b.len
  have TR := hid (fun b w k0 top hb hr hw hk ht hst => tree1 (w0 := w0) (F := F) (pw := pw) (pa := pa) (pm := pm) (v0 := v0) (v1 := v1) (r0 := headr t) (r1 := headr u) (L0 := L0) (L1 := L1) (nx := nx) (sp := sp) (mo := mo) hi.ok hl (b.k.size + 1) b w k0 (-1) (0, 0, 0) top hb hr hw hk ht hst)
  obtain ⟨va, vc, hv'⟩ := h.l1.form
  subst hv'
  obtain ⟨c0, c1, c2, c3, c4, c5, c6, c7, cf⟩ := h.cells
  have hlt := h.lt
  have E0 := hid (Ex.start h.is)
  have tk0 : tk s 0 = s := rfl
  obtain ⟨n0, hn0⟩ : ∃ z, z = L1.length := ⟨_, rfl⟩
  have HN0 := hid hn0
  rw [← hn0] at hl LEN c4 ⊢
  clear h hi c0 c5 c6 c7 cf hn0 SM
  go_enter Tryz.func38, Tryz.ntmps38
  go_wp2_with fail
  go_loopw [5, 6, 7, 8] (fun nv av lv iv wr => ∃ (i j al : Nat) (la : Int) (r : List Bn), nv = .int .i64 (headr r) ∧ av = .int .i64 (al : Int) ∧ lv = .int .i64 la ∧ iv = .int .i64 (i : Int) ∧ i + r.length ≤ 11 ∧ -1 ≤ la ∧ la ≤ 9 ∧ Hid (Chs (hasS s) i la r) ∧ Hid (∀ b ∈ r, b ∈ u) ∧ al + (its r).length ≤ n0 ∧ n0 ≤ al + (its r).length ∧ j + 10 * (its r).length ≤ 10 * n0 ∧ Hid (Ex F w wr pa pm (tk s j))) (fun _ _ _ iv _ => 40 - (intOf iv).toNat)
  case atStart => exact ⟨0, 0, 0, -1, u, rfl, rfl, rfl, rfl, by omega, by omega, by omega, CH, hid (fun b hb => hb), by have := LEN.out; omega, by have := LEN.out; omega, by have := LEN.out; omega, E0⟩
  case round =>
    clear E0 CH
    obtain ⟨i, j, al, la, r, rfl, rfl, rfl, rfl, hil, hla, hlb, hch, hin, ha1, ha2, hj, hE⟩ := hrel
    cases r with
    | nil =>
      have WR := hid (HW.out.ex hE.out)
      obtain ⟨d0, d1, d2, d3, d4, _, _, _, _⟩ := WR.out.cells
      rw [← HN0.out] at d4
      rw [headr_nil]
      have hal : ((al : Int) == (n0 : Int)) = true := by simp [its] at ha1 ha2 ⊢; omega
      have hi40 : (i : Int) < 40 := by omega
      clear hch hin ha1 ha2 hil hla hlb
      clear d0 d1 d2 d3 c1 c2 c3 c4
      go_wp2
      go_ret
      exact ⟨rfl, j, by omega, hE.out⟩
    | cons b r' =>
      have hc := hch.out
      have hbt := hin.out b (by simp)
      have hb9 := RK.out b hbt
      obtain ⟨m, hm⟩ : ∃ m, m = b.rk := ⟨_, rfl⟩
      have HM := hid hm
      have C2 := hid (show Chs (hasS s) (i + 1) (m : Int) r' by rw [hm]; exact hc.2.2)
      have hcase : la < (m : Int) ∨ (i = 1 ∧ la = (m : Int)) := by rw [hm]; exact hc.1
      have hlen : (its (b :: r')).length = b.k.size + 1 + (its r').length := by
        unfold its
        rw [List.flatMap_cons, List.length_append]
        simp only [Bn.items, List.length_cons, size_items]
      rw [hlen] at hj ha1 ha2
      obtain ⟨y2, hy2⟩ : ∃ y2, y2 = b.k.size + 1 := ⟨_, rfl⟩
      have HY2 := hid hy2
      rw [← hy2] at hj ha1 ha2
      have hi40 : (i : Int) < 40 := by simp only [List.length_cons] at hil; omega
      have hil' : i + 1 + r'.length ≤ 11 := by simp only [List.length_cons] at hil; omega
      have hm9 : m ≤ 9 := by omega
      have hy1 : 1 ≤ y2 := by omega
      have hy0 : ((y2 : Int) == 0) = false := by simp; omega
      have hd1 : decide ((m : Int) < la) = false := by simp; omega
      have hwz : IntKind.i64.wrap ((al : Int) + (y2 : Int)) = ((al + y2 : Nat) : Int) := by rw [IntWalk.i64_in _ (by omega)]; omega
      have CR := hid (show cellS s (b.n : Int) 3 = headr r' by
        have h3 := hc.2.1
        cases r' with
        | nil => exact cell_neg (j := 3) (VB.out b hbt).ln (by decide) h3
        | cons c r'' => exact cell_nat (j := 3) OK.out (VB.out b hbt).ln (by decide) h3 (VB.out c (hin.out c (by simp))).ln)
      have IN := hid (fun c (hc : c ∈ r') => hin.out c (by simp [hc]))
      have hbn : ((b.n : Int) == -1) = false := by simp
      have G2 := hid (getT (b.n : Int) 4 (Ex.start hE.out.is) (by show s.steps + j ≤ _; omega))
      rw [show getS (tk s j) (b.n : Int) 4 = (m : Int) by rw [hm]; exact (get_nat (j := 4) (VB.out b hbt).ln (by decide)).trans (VB.out b hbt).vn.rank] at G2
      have WNB := hid (WN.out b hbt)
      have WR := hid (HW.out.ex hE.out)
      obtain ⟨d0, _, _, _, _, _, _, _, _⟩ := WR.out.cells
      rw [headr_cons]
      clear hch hc hbt hin hlen hm hy2 c1 c2 c3 c4 hil hb9
      have fin : ∀ w9 : World, Hid (Ex F w w9 pa pm (tk s (j + 1))) → Hid (Calls Tryz.prog 58 #[.pointer (some ⟨pw, 0, none⟩), .int .i64 1, .int .i64 (b.n : Int), .int .i64 (-1), .agg #[.int .i64 0, .int .i64 0, .int .i64 0], .bool true] w9 fun e w' => e = .returned (.int .i64 (y2 : Int)) ∧ ∃ k, k ≤ j + 1 + (8 + 10 * b.k.size) ∧ Ex F w9 w' pa pm (tk s k)) := fun w9 X9 => hid (by
        have T := TR.out b w9 (j + 1) true (by omega) (by have := HY2.out; have := HN0.out; omega) (HW.out.ex X9.out) WNB.out (Or.inl rfl) (by have := HY2.out; omega)
        rw [← HY2.out] at T
        exact T)
      go_wp2_with fail
      refine G2.out.mono ?_
      rintro e w9 ⟨rfl, e9⟩
      have X9 := hid (show Ex F w w9 pa pm (tk s (j + 1)) by rw [← tk_tk]; exact hE.out.stay e9.is e9.kept)
      have W9 := hid (HW.out.ex X9.out)
      have T := fin w9 X9
      clear e9 G2 hE WR d0 fin
      go_wp2_with fail
      refine T.out.mono ?_
      rintro e w10 ⟨rfl, k9, hk9, e10⟩
      have X10 := hid (X9.out.stay e10.is e10.kept)
      have W10 := hid (HW.out.ex X10.out)
      have HK9 := hid (show k9 ≤ j + 1 + (8 + 10 * b.k.size) from hk9)
      clear e10 T X9 W9 hk9
      obtain ⟨d0, _, _, _, _, _, _, _, _⟩ := W10.out.cells
      have C5 := hid (cellT (b.n : Int) 3 (Ex.start X10.out.is) (by show s.steps + k9 ≤ _; have := HK9.out; have := HY2.out; omega))
      rw [show cellS (tk s k9) (b.n : Int) 3 = headr r' from CR.out] at C5
      by_cases q : la < (m : Int)
      · have hne : ((m : Int) == la) = false := by simp; omega
        clear hcase q
        go_wp2_with fail
        refine C5.out.mono ?_
        rintro e w11 ⟨rfl, e11⟩
        have X11 := hid (show Ex F w w11 pa pm (tk s (k9 + 1)) by rw [← tk_tk]; exact X10.out.stay e11.is e11.kept)
        clear e11 C5 X10 W10 d0
        go_wp2
        go_roundw
        case rel => exact ⟨i + 1, k9 + 1, al + y2, (m : Int), r', rfl, rfl, rfl, by go_num, hil', by omega, by omega, C2, IN, by omega, by omega, by have := HK9.out; have := HY2.out; omega, X11⟩
        case measure => simp [intOf]; omega
      · obtain ⟨rfl, hle⟩ := hcase.resolve_left q
        have HLE := hid hle
        have hne : ((m : Int) == la) = true := by simp; omega
        clear hcase q hle
        go_wp2_with fail
        refine C5.out.mono ?_
        rintro e w11 ⟨rfl, e11⟩
        have X11 := hid (show Ex F w w11 pa pm (tk s (k9 + 1)) by rw [← tk_tk]; exact X10.out.stay e11.is e11.kept)
        clear e11 C5 X10 W10 d0
        go_wp2
        go_roundw
        case rel => exact ⟨2, k9 + 1, al + y2, (m : Int), r', rfl, rfl, rfl, by go_num, hil', by omega, by omega, C2, IN, by omega, by omega, by have := HK9.out; have := HY2.out; omega, X11⟩
        case measure => simp [intOf]

end Go.Proofs.YteibfnclillnnabGreat
