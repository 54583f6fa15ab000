/- Several texts in one. -/
import Derived.Test.YthfdooigljkfiaaGh
import Derived.Laws.ResultCell
/- The laws' fresh: a world with nothing in it. -/
namespace Go.Proofs.Ythfdooigljkfiaa
open Go.ChangeShapes Go.WideShapes Go.ChangeAt Go.RowKit
open Tr

set_option maxHeartbeats 2000000 in
theorem freshW (n : Int) (w : World) : Calls Try.prog 5 #[.int .i64 n] w fun e w' => ∃ pw, e = .returned (.pointer (some ⟨pw, 0, none⟩)) ∧ Sit (Fm.of w) w' pw (most0 n) 0 [] [] 0 := by
  go_enter Try.func5, Try.ntmps5
  go_wp2_with fail
  refine (newA n w).mono ?_
  rintro e w1 ⟨F, pa, pm, rfl, h1, h2, h3⟩
  have H1 := hid h1
  have H2 := hid h2
  have H3 := hid h3
  have h4 := h1.lt
  have H4 := hid h4
  obtain ⟨pw, hpw⟩ : ∃ pw, pw = w1.heap.size := ⟨_, rfl⟩
  have hpw' : w1.heap.size = pw := hpw.symm
  have HPW := hid hpw
  clear h1 h2 h3 h4 hpw
  have WX : Hid (Wx (Fm.of w) (w1.alloc (.cells #[.pointer (some ⟨pa, 0, none⟩), .int .i64 (-1), .int .i64 (-1), .slice none 0 0, .slice none 0 0, .int .i64 0, .int .i64 0, .int .i64 0] 33)) F pw pa pm (.slice none 0 0) (.slice none 0 0) (st0 n) (headr nilQ) (headr nilQ) [] [] 0 ((0 : Nat) : Int) ((0 : Nat) : Int)) := by
    have k := (Kept.refl (fun _ => False) w1).alloc (.cells #[.pointer (some ⟨pa, 0, none⟩), .int .i64 (-1), .int .i64 (-1), .slice none 0 0, .slice none 0 0, .int .i64 0, .int .i64 0, .int .i64 0] 33)
    refine ⟨?_, H1.out.kept k (fun _ _ e => e), fun q => by have := H4.out pw q; have := HPW.out; omega, Lz.nil _ _, Lz.nil _ _, fun k hk => Or.inr (H2.out k hk), Or.inr (by rw [HPW.out]; exact H3.out.size), (Kept.of_below H3.out).alloc _⟩
    rw [HPW.out]
    exact heap_alloc_new w1 _
  have ME := hid (meterA pa pm _ F _ WX.out.is)
  obtain ⟨c0, _, _, _, _, _, _, _, _⟩ := WX.out.cells
  have hlt := WX.out.lt
  go_wp2_with fail
  refine ME.out.mono ?_
  rintro e w3 ⟨rfl, rfl⟩
  go_wp2
  go_ret
  exact ⟨pw, rfl, F, pa, pm, _, _, st0 n, nilQ, nilQ, 0, 0, WX.out, Inv.start n, by rw [pot_start]; exact ⟨Nat.le_refl _, Nat.le_refl _, Nat.le_refl _⟩, rfl⟩
end Go.Proofs.Ythfdooigljkfiaa

/- The laws' node: is a cell a node of an item that is held? -/
namespace Go.Proofs.Ythfdooigljkfiaa
open Go.ChangeShapes Go.WideShapes Go.ChangeAt Go.RowKit

theorem set3_cell {w : World} {g : Nat} {a b c : Value} {o x : Nat} (h : ¬ x = g) : (((w.setCell ⟨g, 0, none⟩ a).setCell ⟨g, 1, none⟩ b).setCell ⟨g, 2, none⟩ c).cell? ⟨x, o, none⟩ = w.cell? ⟨x, o, none⟩ :=
  World.cell?_of_block (((Below.heap_setCell _ _ _ _ h).trans (Below.heap_setCell _ _ _ _ h)).trans (Below.heap_setCell _ _ _ _ h))
theorem set3_kept (w : World) (g : Nat) (a b c : Value) : Kept (fun k => k = g) w (((w.setCell ⟨g, 0, none⟩ a).setCell ⟨g, 1, none⟩ b).setCell ⟨g, 2, none⟩ c) := (((Kept.refl (fun k => k = g) w).setCell (p := ⟨g, 0, none⟩) (Or.inl rfl) a).setCell (p := ⟨g, 1, none⟩) (Or.inl rfl) b).setCell (p := ⟨g, 2, none⟩) (Or.inl rfl) c

set_option maxHeartbeats 4000000 in
set_option maxRecDepth 100000 in
theorem node0 {w0 : Fm} {w : World} {F : Nat → Prop} {pw pa pm : Nat} {v0 v1 : Value} {s : St} {r0 r1 : Int} {L0 L1 : List (Nat × Int × Int)} {nx sp mo : Int} (h : Wx w0 w F pw pa pm v0 v1 s r0 r1 L0 L1 nx sp mo)
    (n : Int) (a : Nat) (x : Nat × Int × Int) (hx : L0[a]? = some x) (hb : ∀ b y, b < a → L0[b]? = some y → y.1 ≠ x.1) (h6 : cellS s n 6 = (x.1 : Int)) (h9 : cellS s (x.1 : Int) 9 = n) (h7 : getS s (x.1 : Int) 7 = x.2.1) (h8 : getS s (x.1 : Int) 8 = x.2.2) (hl : L0.length ≤ 1000) (hs : s.steps ≤ 90000000) :
    Calls Try.prog 69 #[.pointer (some ⟨pw, 0, none⟩), .int .i64 0, .int .i64 n] w fun e w' => e = .returned (.tuple #[hv x, .bool true]) ∧ Ex F w w' pa pm (tk s 4) := by
  obtain ⟨va, vc, hv⟩ := h.l0.form
  subst hv
  have hal : a < L0.length := (List.getElem?_eq_some_iff.1 hx).1
  have HW := hid h
  have HX := hid hx
  have HB := hid hb
  obtain ⟨rb, hrb⟩ : ∃ rb, rb = w.heap.size := ⟨_, rfl⟩
  have FL := hid h.is.lt
  have hlt0 := h.lt
  have E0 := hid ((Ex.start h.is).plain ((Kept.refl _ _).alloc (.cells #[.int .i64 0, .int .i64 0, .int .i64 0] 55)))
  have R0 := hid (show (w.alloc (.cells #[.int .i64 0, .int .i64 0, .int .i64 0] 55)).heap[rb]? = some (.cells #[.int .i64 0, .int .i64 0, .int .i64 0] 55) by rw [hrb]; exact heap_alloc_new w _)
  have C := hid (cellT n 6 (Ex.start E0.out.is) (by omega))
  rw [h6] at C
  have c0 : (w.alloc (.cells #[.int .i64 0, .int .i64 0, .int .i64 0] 55)).cell? ⟨pw, 0, none⟩ = some (.pointer (some ⟨pa, 0, none⟩)) := (World.cell?_of_block (Below.heap_alloc _ _ _ hlt0)).trans h.cells.1
  have hrw : w.heap.size = rb := hrb.symm
  have hlt1 : pw < (w.alloc (.cells #[.int .i64 0, .int .i64 0, .int .i64 0] 55)).heap.size := by simp; omega
  have HRB := hid hrb
  have H9 := hid h9
  have H7 := hid h7
  have H8 := hid h8
  clear h hx hb h6 h9 h7 h8 hrb
  obtain ⟨xc, xk, xs⟩ := x
  simp only at HB H9 H7 H8 C
  unfold hv
  simp only
  go_enter Try.func69, Try.ntmps69
  go_wp2_with fail
  refine C.out.mono ?_
  rintro e w1 ⟨rfl, h1⟩
  have X1 := hid (E0.out.stay h1.is h1.kept)
  have R1 := hid ((h1.kept.block rb (lt_of_block R0.out) (fun q => by have := FL.out rb q; have := HRB.out; omega)).trans R0.out)
  clear h1 C E0 R0 c0 hlt1 hrw
  go_wp2_with fail
  go_loopw [9, 10] (fun kv _ wr => ∃ k : Nat, kv = .int .i64 k ∧ k ≤ a ∧ wr.heap[rb]? = some (.cells #[.int .i64 0, .int .i64 0, .int .i64 0] 55) ∧ Ex F w wr pa pm (tk s 1)) (fun k _ _ => L0.length - (intOf k).toNat)
  case atStart => exact ⟨0, rfl, Nat.zero_le _, R1.out, X1.out⟩
  case round =>
    obtain ⟨k, rfl, hka, hr, hex⟩ := hrel
    clear X1 R1
    have WX := hid (HW.out.ex hex)
    have XR := hid hex
    have RR := hid hr
    have hlt2 := WX.out.lt
    obtain ⟨c0, c1, c2, c3, c4, c5, c6, c7, cf⟩ := WX.out.cells
    have hkl : k < L0.length := by omega
    have hy : L0[k]? = some (L0[k]'hkl) := List.getElem?_eq_getElem hkl
    obtain ⟨b, cap, e, _, hbw, hP, y1, y2, y3⟩ := WX.out.l0.at hy
    obtain rfl : va = some ⟨b, 0, none⟩ := by injection e
    have hkl' : (k : Int) < (L0.length : Int) := by omega
    obtain ⟨nb, hnb⟩ : ∃ nb, wr.heap.size = nb := ⟨_, rfl⟩
    have HNB := hid hnb
    have hb1 : ¬ nb = b := by omega
    have hb2 : ¬ nb = pw := by omega
    have hb3 : ¬ nb = rb := by have := lt_of_block hr; omega
    by_cases hk : k < a
    · have HNE := hid (HB.out k _ hk hy)
      generalize L0[k]'hkl = y at *
      obtain ⟨yc, yk, ys⟩ := y
      simp only at y1 y2 y3 HNE
      have hne : ((yc : Int) == (xc : Int)) = false := by have := HNE.out; simp; omega
      clear c1 c2 c4 c5 c6 c7 cf e hy hr hex
      go_wp2_with fail
      refine ⟨⟨k + 1, by simp, by omega, (Below.heap_alloc _ _ _ (lt_of_block RR.out)).trans RR.out, XR.out.plain ((Kept.refl _ _).alloc _)⟩, ?_⟩
      simp [intOf]; omega
    · obtain rfl : k = a := by omega
      have hyx : L0[k]'hkl = (xc, xk, xs) := by have := HX.out; rw [hy] at this; injection this
      rw [hyx] at y1 y2 y3
      simp only at y1 y2 y3
      have X2 := hid (XR.out.plain ((Kept.refl _ _).alloc (.cells #[.int .i64 (xc : Int), .int .i64 xk, .int .i64 xs] 55)))
      have R2 := hid ((Below.heap_alloc wr (.cells #[.int .i64 (xc : Int), .int .i64 xk, .int .i64 xs] 55) _ (lt_of_block RR.out)).trans RR.out)
      have B2 := hid (show (wr.alloc (.cells #[.int .i64 (xc : Int), .int .i64 xk, .int .i64 xs] 55)).heap[nb]? = some (.cells #[.int .i64 (xc : Int), .int .i64 xk, .int .i64 xs] 55) by rw [← hnb]; exact heap_alloc_new wr _)
      clear c1 c2 c4 c5 c6 c7 cf e hy hr hex hyx
      go_upto_region 7 with fail
      have c0' : (wr.alloc (.cells #[.int .i64 (xc : Int), .int .i64 xk, .int .i64 xs] 55)).cell? ⟨pw, 0, none⟩ = some (.pointer (some ⟨pa, 0, none⟩)) := (World.cell?_of_block (Below.heap_alloc _ _ _ hlt2)).trans c0
      have hpw2 : pw < (wr.alloc (.cells #[.int .i64 (xc : Int), .int .i64 xk, .int .i64 xs] 55)).heap.size := by simp; omega
      have hnw2 : nb < (wr.alloc (.cells #[.int .i64 (xc : Int), .int .i64 xk, .int .i64 xs] 55)).heap.size := lt_of_block B2.out
      have hrw2 : rb < (wr.alloc (.cells #[.int .i64 (xc : Int), .int .i64 xk, .int .i64 xs] 55)).heap.size := lt_of_block R2.out
      have NFb : Hid (¬ F nb) := fun q => by have := FL.out nb q; have := XR.out.kept.size; have := HNB.out; omega
      have NFr : Hid (¬ F rb) := fun q => by have := FL.out rb q; have := HRB.out; omega
      have NFp : Hid (¬ F pw) := HW.out.out
      clear c0 c3 y1 y2 y3 hnb hb1
      generalize wr.alloc (.cells #[.int .i64 (xc : Int), .int .i64 xk, .int .i64 xs] 55) = W at *
      have z0 : W.cell? ⟨nb, 0, none⟩ = some (.int .i64 (xc : Int)) := blk_cell B2.out rfl
      have z1 : W.cell? ⟨nb, 1, none⟩ = some (.int .i64 xk) := blk_cell B2.out rfl
      have z2 : W.cell? ⟨nb, 2, none⟩ = some (.int .i64 xs) := blk_cell B2.out rfl
      have zr0 : W.cell? ⟨rb, 0, none⟩ = some (.int .i64 0) := blk_cell R2.out rfl
      have zf0 : W.frozen? ⟨rb, 0, none⟩ = false := blk_free R2.out
      have zr1 : W.cell? ⟨rb, 1, none⟩ = some (.int .i64 0) := blk_cell R2.out rfl
      have zf1 : W.frozen? ⟨rb, 1, none⟩ = false := blk_free R2.out
      have zr2 : W.cell? ⟨rb, 2, none⟩ = some (.int .i64 0) := blk_cell R2.out rfl
      have zf2 : W.frozen? ⟨rb, 2, none⟩ = false := blk_free R2.out
      have hpr : ¬ pw = rb := by have := HRB.out; omega
      have hE := fun w => eql44 xk xs xk xs w
      simp only [and_self, decide_true] at hE
      have T1 := hid (fun w1 (k1 : Kept (fun _ => False) W w1) => cellT (xc : Int) 9 ((Ex.start X2.out.is).plain k1) (by show s.steps + 1 ≤ _; omega))
      rw [show cellS (tk s 1) (xc : Int) 9 = n from H9.out] at T1
      go_region_held3 (fun w' => w'.cell? ⟨pw, 0, none⟩ = some (.pointer (some ⟨pa, 0, none⟩)) ∧ w'.cell? ⟨nb, 0, none⟩ = some (.int .i64 (xc : Int)) ∧ w'.cell? ⟨nb, 1, none⟩ = some (.int .i64 xk) ∧ w'.cell? ⟨nb, 2, none⟩ = some (.int .i64 xs)) (first | exact ⟨c0', z0, z1, z2⟩ | exact ⟨(set3_cell hpr).trans c0', (set3_cell hb3).trans z0, (set3_cell hb3).trans z1, (set3_cell hb3).trans z2⟩)
        (first
          | (go_at_call 28; refine (T1.out _ (by first | exact Kept.refl _ _ | exact (Kept.refl _ _).drew | exact (Kept.refl _ _).drewN _)).mono ?_; rintro e w3 ⟨rfl, e3⟩; replace c0' := (e3.kept.cell (p := ⟨pw, 0, none⟩) hpw2 NFp.out).trans c0'; replace z0 := (e3.kept.cell (p := ⟨nb, 0, none⟩) hnw2 NFb.out).trans z0; replace z1 := (e3.kept.cell (p := ⟨nb, 1, none⟩) hnw2 NFb.out).trans z1; replace z2 := (e3.kept.cell (p := ⟨nb, 2, none⟩) hnw2 NFb.out).trans z2; replace zr0 := (e3.kept.cell (p := ⟨rb, 0, none⟩) hrw2 NFr.out).trans zr0; replace zf0 := (World.frozen?_of_block (e3.kept.block rb hrw2 NFr.out)).trans zf0; replace zr1 := (e3.kept.cell (p := ⟨rb, 1, none⟩) hrw2 NFr.out).trans zr1; replace zf1 := (World.frozen?_of_block (e3.kept.block rb hrw2 NFr.out)).trans zf1; replace zr2 := (e3.kept.cell (p := ⟨rb, 2, none⟩) hrw2 NFr.out).trans zr2; replace zf2 := (World.frozen?_of_block (e3.kept.block rb hrw2 NFr.out)).trans zf2; have E3 := hid e3; clear e3)
          | (go_at_call 9; refine (entryT (xc : Int) (Ex.start E3.out.is) (by show s.steps + 1 + 1 ≤ _; omega)).mono ?_; rintro e w4 ⟨rfl, e4⟩; have hpw3 := Nat.lt_of_lt_of_le hpw2 E3.out.kept.size; have hnw3 := Nat.lt_of_lt_of_le hnw2 E3.out.kept.size; replace c0' := (e4.kept.cell (p := ⟨pw, 0, none⟩) hpw3 NFp.out).trans c0'; replace z0 := (e4.kept.cell (p := ⟨nb, 0, none⟩) hnw3 NFb.out).trans z0; replace z1 := (e4.kept.cell (p := ⟨nb, 1, none⟩) hnw3 NFb.out).trans z1; replace z2 := (e4.kept.cell (p := ⟨nb, 2, none⟩) hnw3 NFb.out).trans z2; have hrw3 := Nat.lt_of_lt_of_le hrw2 E3.out.kept.size; replace zr0 := (e4.kept.cell (p := ⟨rb, 0, none⟩) hrw3 NFr.out).trans zr0; replace zf0 := (World.frozen?_of_block (e4.kept.block rb hrw3 NFr.out)).trans zf0; replace zr1 := (e4.kept.cell (p := ⟨rb, 1, none⟩) hrw3 NFr.out).trans zr1; replace zf1 := (World.frozen?_of_block (e4.kept.block rb hrw3 NFr.out)).trans zf1; replace zr2 := (e4.kept.cell (p := ⟨rb, 2, none⟩) hrw3 NFr.out).trans zr2; replace zf2 := (World.frozen?_of_block (e4.kept.block rb hrw3 NFr.out)).trans zf2; have hrw4 := Nat.lt_of_lt_of_le hrw3 e4.kept.size; rw [show getS (tk (tk s 1) 1) (xc : Int) 7 = xk from H7.out, show getS (tk (tk s 1) 1) (xc : Int) 8 = xs from H8.out]; have E4 := hid (E3.out.stay e4.is e4.kept); clear e4))
      have XF := hid (X2.out.stay E4.out.is E4.out.kept)
      have hrw0 : w.heap.size ≤ rb := by have := HRB.out; omega
      clear E3 E4 T1 hE c0' z0 z1 z2
      go_wp2
      refine bodyPost_ret (v := .tuple #[.agg #[.int .i64 (xc : Int), .int .i64 xk, .int .i64 xs], .bool true]) (by rw [results_cell_tmp rfl]; go_simp) rfl ?_
      exact ⟨rfl, XF.out.other (set3_kept w4 rb _ _ _) (fun k hF hk => NFr.out (hk ▸ hF)) (fun k hk => by rw [hk]; exact hrw0)⟩

set_option maxHeartbeats 4000000 in
set_option maxRecDepth 100000 in
theorem node1 {w0 : Fm} {w : World} {F : Nat → Prop} {pw pa pm : Nat} {v0 v1 : Value} {s : St} {r0 r1 : Int} {L0 L1 : List (Nat × Int × Int)} {nx sp mo : Int} (h : Wx w0 w F pw pa pm v0 v1 s r0 r1 L0 L1 nx sp mo)
    (n : Int) (a : Nat) (x : Nat × Int × Int) (hx : L1[a]? = some x) (hb : ∀ b y, b < a → L1[b]? = some y → y.1 ≠ x.1) (h6 : cellS s n 6 = (x.1 : Int)) (h9 : cellS s (x.1 : Int) 9 = n) (h7 : getS s (x.1 : Int) 7 = x.2.1) (h8 : getS s (x.1 : Int) 8 = x.2.2) (hl : L1.length ≤ 1000) (hs : s.steps ≤ 90000000) :
    Calls Try.prog 69 #[.pointer (some ⟨pw, 0, none⟩), .int .i64 1, .int .i64 n] w fun e w' => e = .returned (.tuple #[hv x, .bool true]) ∧ Ex F w w' pa pm (tk s 4) := by
  obtain ⟨va, vc, hv⟩ := h.l1.form
  subst hv
  have hal : a < L1.length := (List.getElem?_eq_some_iff.1 hx).1
  have HW := hid h
  have HX := hid hx
  have HB := hid hb
  obtain ⟨rb, hrb⟩ : ∃ rb, rb = w.heap.size := ⟨_, rfl⟩
  have FL := hid h.is.lt
  have hlt0 := h.lt
  have E0 := hid ((Ex.start h.is).plain ((Kept.refl _ _).alloc (.cells #[.int .i64 0, .int .i64 0, .int .i64 0] 55)))
  have R0 := hid (show (w.alloc (.cells #[.int .i64 0, .int .i64 0, .int .i64 0] 55)).heap[rb]? = some (.cells #[.int .i64 0, .int .i64 0, .int .i64 0] 55) by rw [hrb]; exact heap_alloc_new w _)
  have C := hid (cellT n 6 (Ex.start E0.out.is) (by omega))
  rw [h6] at C
  have c0 : (w.alloc (.cells #[.int .i64 0, .int .i64 0, .int .i64 0] 55)).cell? ⟨pw, 0, none⟩ = some (.pointer (some ⟨pa, 0, none⟩)) := (World.cell?_of_block (Below.heap_alloc _ _ _ hlt0)).trans h.cells.1
  have hrw : w.heap.size = rb := hrb.symm
  have hlt1 : pw < (w.alloc (.cells #[.int .i64 0, .int .i64 0, .int .i64 0] 55)).heap.size := by simp; omega
  have HRB := hid hrb
  have H9 := hid h9
  have H7 := hid h7
  have H8 := hid h8
  clear h hx hb h6 h9 h7 h8 hrb
  obtain ⟨xc, xk, xs⟩ := x
  simp only at HB H9 H7 H8 C
  unfold hv
  simp only
  go_enter Try.func69, Try.ntmps69
  go_wp2_with fail
  refine C.out.mono ?_
  rintro e w1 ⟨rfl, h1⟩
  have X1 := hid (E0.out.stay h1.is h1.kept)
  have R1 := hid ((h1.kept.block rb (lt_of_block R0.out) (fun q => by have := FL.out rb q; have := HRB.out; omega)).trans R0.out)
  clear h1 C E0 R0 c0 hlt1 hrw
  go_wp2_with fail
  go_loopw [9, 10] (fun kv _ wr => ∃ k : Nat, kv = .int .i64 k ∧ k ≤ a ∧ wr.heap[rb]? = some (.cells #[.int .i64 0, .int .i64 0, .int .i64 0] 55) ∧ Ex F w wr pa pm (tk s 1)) (fun k _ _ => L1.length - (intOf k).toNat)
  case atStart => exact ⟨0, rfl, Nat.zero_le _, R1.out, X1.out⟩
  case round =>
    obtain ⟨k, rfl, hka, hr, hex⟩ := hrel
    clear X1 R1
    have WX := hid (HW.out.ex hex)
    have XR := hid hex
    have RR := hid hr
    have hlt2 := WX.out.lt
    obtain ⟨c0, c1, c2, c3, c4, c5, c6, c7, cf⟩ := WX.out.cells
    have hkl : k < L1.length := by omega
    have hy : L1[k]? = some (L1[k]'hkl) := List.getElem?_eq_getElem hkl
    obtain ⟨b, cap, e, _, hbw, hP, y1, y2, y3⟩ := WX.out.l1.at hy
    obtain rfl : va = some ⟨b, 0, none⟩ := by injection e
    have hkl' : (k : Int) < (L1.length : Int) := by omega
    obtain ⟨nb, hnb⟩ : ∃ nb, wr.heap.size = nb := ⟨_, rfl⟩
    have HNB := hid hnb
    have hb1 : ¬ nb = b := by omega
    have hb2 : ¬ nb = pw := by omega
    have hb3 : ¬ nb = rb := by have := lt_of_block hr; omega
    by_cases hk : k < a
    · have HNE := hid (HB.out k _ hk hy)
      generalize L1[k]'hkl = y at *
      obtain ⟨yc, yk, ys⟩ := y
      simp only at y1 y2 y3 HNE
      have hne : ((yc : Int) == (xc : Int)) = false := by have := HNE.out; simp; omega
      clear c1 c2 c3 c5 c6 c7 cf e hy hr hex
      go_wp2_with fail
      refine ⟨⟨k + 1, by simp, by omega, (Below.heap_alloc _ _ _ (lt_of_block RR.out)).trans RR.out, XR.out.plain ((Kept.refl _ _).alloc _)⟩, ?_⟩
      simp [intOf]; omega
    · obtain rfl : k = a := by omega
      have hyx : L1[k]'hkl = (xc, xk, xs) := by have := HX.out; rw [hy] at this; injection this
      rw [hyx] at y1 y2 y3
      simp only at y1 y2 y3
      have X2 := hid (XR.out.plain ((Kept.refl _ _).alloc (.cells #[.int .i64 (xc : Int), .int .i64 xk, .int .i64 xs] 55)))
      have R2 := hid ((Below.heap_alloc wr (.cells #[.int .i64 (xc : Int), .int .i64 xk, .int .i64 xs] 55) _ (lt_of_block RR.out)).trans RR.out)
      have B2 := hid (show (wr.alloc (.cells #[.int .i64 (xc : Int), .int .i64 xk, .int .i64 xs] 55)).heap[nb]? = some (.cells #[.int .i64 (xc : Int), .int .i64 xk, .int .i64 xs] 55) by rw [← hnb]; exact heap_alloc_new wr _)
      clear c1 c2 c3 c5 c6 c7 cf e hy hr hex hyx
      go_upto_region 7 with fail
      have c0' : (wr.alloc (.cells #[.int .i64 (xc : Int), .int .i64 xk, .int .i64 xs] 55)).cell? ⟨pw, 0, none⟩ = some (.pointer (some ⟨pa, 0, none⟩)) := (World.cell?_of_block (Below.heap_alloc _ _ _ hlt2)).trans c0
      have hpw2 : pw < (wr.alloc (.cells #[.int .i64 (xc : Int), .int .i64 xk, .int .i64 xs] 55)).heap.size := by simp; omega
      have hnw2 : nb < (wr.alloc (.cells #[.int .i64 (xc : Int), .int .i64 xk, .int .i64 xs] 55)).heap.size := lt_of_block B2.out
      have hrw2 : rb < (wr.alloc (.cells #[.int .i64 (xc : Int), .int .i64 xk, .int .i64 xs] 55)).heap.size := lt_of_block R2.out
      have NFb : Hid (¬ F nb) := fun q => by have := FL.out nb q; have := XR.out.kept.size; have := HNB.out; omega
      have NFr : Hid (¬ F rb) := fun q => by have := FL.out rb q; have := HRB.out; omega
      have NFp : Hid (¬ F pw) := HW.out.out
      clear c0 c4 y1 y2 y3 hnb hb1
      generalize wr.alloc (.cells #[.int .i64 (xc : Int), .int .i64 xk, .int .i64 xs] 55) = W at *
      have z0 : W.cell? ⟨nb, 0, none⟩ = some (.int .i64 (xc : Int)) := blk_cell B2.out rfl
      have z1 : W.cell? ⟨nb, 1, none⟩ = some (.int .i64 xk) := blk_cell B2.out rfl
      have z2 : W.cell? ⟨nb, 2, none⟩ = some (.int .i64 xs) := blk_cell B2.out rfl
      have zr0 : W.cell? ⟨rb, 0, none⟩ = some (.int .i64 0) := blk_cell R2.out rfl
      have zf0 : W.frozen? ⟨rb, 0, none⟩ = false := blk_free R2.out
      have zr1 : W.cell? ⟨rb, 1, none⟩ = some (.int .i64 0) := blk_cell R2.out rfl
      have zf1 : W.frozen? ⟨rb, 1, none⟩ = false := blk_free R2.out
      have zr2 : W.cell? ⟨rb, 2, none⟩ = some (.int .i64 0) := blk_cell R2.out rfl
      have zf2 : W.frozen? ⟨rb, 2, none⟩ = false := blk_free R2.out
      have hpr : ¬ pw = rb := by have := HRB.out; omega
      have hE := fun w => eql44 xk xs xk xs w
      simp only [and_self, decide_true] at hE
      have T1 := hid (fun w1 (k1 : Kept (fun _ => False) W w1) => cellT (xc : Int) 9 ((Ex.start X2.out.is).plain k1) (by show s.steps + 1 ≤ _; omega))
      rw [show cellS (tk s 1) (xc : Int) 9 = n from H9.out] at T1
      go_region_held3 (fun w' => w'.cell? ⟨pw, 0, none⟩ = some (.pointer (some ⟨pa, 0, none⟩)) ∧ w'.cell? ⟨nb, 0, none⟩ = some (.int .i64 (xc : Int)) ∧ w'.cell? ⟨nb, 1, none⟩ = some (.int .i64 xk) ∧ w'.cell? ⟨nb, 2, none⟩ = some (.int .i64 xs)) (first | exact ⟨c0', z0, z1, z2⟩ | exact ⟨(set3_cell hpr).trans c0', (set3_cell hb3).trans z0, (set3_cell hb3).trans z1, (set3_cell hb3).trans z2⟩)
        (first
          | (go_at_call 28; refine (T1.out _ (by first | exact Kept.refl _ _ | exact (Kept.refl _ _).drew | exact (Kept.refl _ _).drewN _)).mono ?_; rintro e w3 ⟨rfl, e3⟩; replace c0' := (e3.kept.cell (p := ⟨pw, 0, none⟩) hpw2 NFp.out).trans c0'; replace z0 := (e3.kept.cell (p := ⟨nb, 0, none⟩) hnw2 NFb.out).trans z0; replace z1 := (e3.kept.cell (p := ⟨nb, 1, none⟩) hnw2 NFb.out).trans z1; replace z2 := (e3.kept.cell (p := ⟨nb, 2, none⟩) hnw2 NFb.out).trans z2; replace zr0 := (e3.kept.cell (p := ⟨rb, 0, none⟩) hrw2 NFr.out).trans zr0; replace zf0 := (World.frozen?_of_block (e3.kept.block rb hrw2 NFr.out)).trans zf0; replace zr1 := (e3.kept.cell (p := ⟨rb, 1, none⟩) hrw2 NFr.out).trans zr1; replace zf1 := (World.frozen?_of_block (e3.kept.block rb hrw2 NFr.out)).trans zf1; replace zr2 := (e3.kept.cell (p := ⟨rb, 2, none⟩) hrw2 NFr.out).trans zr2; replace zf2 := (World.frozen?_of_block (e3.kept.block rb hrw2 NFr.out)).trans zf2; have E3 := hid e3; clear e3)
          | (go_at_call 9; refine (entryT (xc : Int) (Ex.start E3.out.is) (by show s.steps + 1 + 1 ≤ _; omega)).mono ?_; rintro e w4 ⟨rfl, e4⟩; have hpw3 := Nat.lt_of_lt_of_le hpw2 E3.out.kept.size; have hnw3 := Nat.lt_of_lt_of_le hnw2 E3.out.kept.size; replace c0' := (e4.kept.cell (p := ⟨pw, 0, none⟩) hpw3 NFp.out).trans c0'; replace z0 := (e4.kept.cell (p := ⟨nb, 0, none⟩) hnw3 NFb.out).trans z0; replace z1 := (e4.kept.cell (p := ⟨nb, 1, none⟩) hnw3 NFb.out).trans z1; replace z2 := (e4.kept.cell (p := ⟨nb, 2, none⟩) hnw3 NFb.out).trans z2; have hrw3 := Nat.lt_of_lt_of_le hrw2 E3.out.kept.size; replace zr0 := (e4.kept.cell (p := ⟨rb, 0, none⟩) hrw3 NFr.out).trans zr0; replace zf0 := (World.frozen?_of_block (e4.kept.block rb hrw3 NFr.out)).trans zf0; replace zr1 := (e4.kept.cell (p := ⟨rb, 1, none⟩) hrw3 NFr.out).trans zr1; replace zf1 := (World.frozen?_of_block (e4.kept.block rb hrw3 NFr.out)).trans zf1; replace zr2 := (e4.kept.cell (p := ⟨rb, 2, none⟩) hrw3 NFr.out).trans zr2; replace zf2 := (World.frozen?_of_block (e4.kept.block rb hrw3 NFr.out)).trans zf2; have hrw4 := Nat.lt_of_lt_of_le hrw3 e4.kept.size; rw [show getS (tk (tk s 1) 1) (xc : Int) 7 = xk from H7.out, show getS (tk (tk s 1) 1) (xc : Int) 8 = xs from H8.out]; have E4 := hid (E3.out.stay e4.is e4.kept); clear e4))
      have XF := hid (X2.out.stay E4.out.is E4.out.kept)
      have hrw0 : w.heap.size ≤ rb := by have := HRB.out; omega
      clear E3 E4 T1 hE c0' z0 z1 z2
      go_wp2
      refine bodyPost_ret (v := .tuple #[.agg #[.int .i64 (xc : Int), .int .i64 xk, .int .i64 xs], .bool true]) (by rw [results_cell_tmp rfl]; go_simp) rfl ?_
      exact ⟨rfl, XF.out.other (set3_kept w4 rb _ _ _) (fun k hF hk => NFr.out (hk ▸ hF)) (fun k hk => by rw [hk]; exact hrw0)⟩

end Go.Proofs.Ythfdooigljkfiaa

/- The laws' tree and shape: what they want of a heap. -/
namespace Go.Proofs.Ythfdooigljkfiaa
open Go.ChangeShapes Go.WideShapes Go.ChangeAt Go.RowKit
open Tr

/-- an item that is held, at its first place -/
def Held (s : St) (L : List (Nat × Int × Int)) (i a : Nat) (x : Nat × Int × Int) : Prop := L[a]? = some x ∧ x.1 = i ∧ (∀ b y, b < a → L[b]? = some y → y.1 ≠ x.1) ∧ hasS s i 7 = x.2.1 ∧ hasS s i 8 = x.2.2
theorem befH_held {s : St} {L : List (Nat × Int × Int)} {i j a b : Nat} {x y : Nat × Int × Int} (h : Held s L i a x) (k : Held s L j b y) : befH x y = befF (hasS s) i j := by
  obtain ⟨_, h1, _, h2, h3⟩ := h
  obtain ⟨_, k1, _, k2, k3⟩ := k
  unfold befH befF
  rw [h2, h3, k2, k3, h1, k1]
theorem held_of {s : St} {t : Tr} {L : List (Nat × Int × Int)} (h : Hh s t L) : ∀ i ∈ its s t, ∃ a x, Held s L i a x := fun i hi => by
  have hn := hh_nodup h
  obtain ⟨x, hx, hxi⟩ := List.mem_map.1 (h.pm.mem_iff.2 hi)
  obtain ⟨a, ha⟩ := List.mem_iff_getElem?.1 hx
  refine ⟨a, x, ha, hxi, fun b y hb hy e => ?_, by rw [← hxi]; exact (h.en x hx).1, by rw [← hxi]; exact (h.en x hx).2⟩
  have h1 := (List.getElem?_eq_some_iff.1 ha)
  have h2 := (List.getElem?_eq_some_iff.1 hy)
  have := (List.pairwise_iff_getElem.1 hn) b a (by simpa using h2.1) (by simpa using h1.1) hb
  simp only [List.getElem_map] at this
  rw [h1.2, h2.2] at this
  exact this e
/-- a link of a cell: none, or a cell that is held -/
def Lkd (s : St) (x : Int) : Prop := x = -1 ∨ ∃ p : Nat, x = (p : Int) ∧ LS s p = true
theorem Lkd.none (s : St) : Lkd s (-1) := Or.inl rfl
theorem cell_lkd {s : St} {n j : Nat} {x : Int} (ok : Ok s) (h : LS s n = true) (hj : j ≤ 9) (he : hasS s n j = x) (hx : Lkd s x) : cellS s (n : Int) (j : Int) = x := by
  rcases hx with rfl | ⟨p, rfl, hp⟩
  · exact cell_neg h hj he
  · exact cell_nat ok h hj he hp
theorem root_lkd {s : St} {up q : Int} {t : Tr} (h : Vp (LS s) (hasS s) up q t) : Lkd s t.root := by
  cases t with
  | lf => exact Or.inl rfl
  | nd n i k r => exact Or.inr ⟨n, rfl, h.1.1⟩
end Go.Proofs.Ythfdooigljkfiaa
