/- The walk of LeftistSorts. -/
import Derived.Test.YthfdooigljkfiaaLift
import Derived.Test.YthfdooigljkfiaaGi
import Derived.Test.YthfdooigljkfiaaKn
import Derived.Test.YthfdooigljkfiaaGl
import Derived.Test.YthfdooigljkfiaaFa0
namespace Go.Proofs.Ythfdooigljkfiaa
open Go.ChangeShapes Go.WideShapes Go.ChangeAt Go.RowKit
open Tr

theorem fall0S {w0 : Fm} {w : World} {pw N K : Nat} {L0 L1 : List (Nat × Int × Int)} {nx : Int} (at0 by0 : Int) (hat : I64 at0) (h : Sit w0 w pw N K L0 L1 nx) (hl : L0.length ≤ 700) (hl' : L1.length ≤ 700) (hK : K ≤ 90000000) :
    Calls Try.prog 7 #[.pointer (some ⟨pw, 0, none⟩), .int .i64 0, .int .i64 at0, .int .i64 by0] w fun e w' => e = .returned (.bool true) ∧ Sit w0 w' pw N (K + 2000) (fallL at0 by0 L0) L1 nx := by
  by_cases h0 : L0 = []
  · refine (fall0_none at0 by0 h h0).mono ?_
    rintro e w1 ⟨rfl, s1⟩
    subst h0
    exact ⟨rfl, by rw [fallL_nil]; exact s1.mono (by omega)⟩
  · exact fall0_some at0 by0 hat h h0 hl hl' hK
theorem lst_some0 {L : List (Nat × Int × Int)} (h : 0 < L.length) : ∃ x, L[lstS L (L.length - 1)]? = some x := by
  obtain ⟨y, hy, _⟩ := lst_least L (L.length - 1) (by omega)
  exact ⟨y, hy⟩
theorem blk_two {w : World} {g : Nat} {a b : Value} {t : TypeId} (h : w.heap[g]? = some (.cells #[a, b] t)) : w.cell? ⟨g, 0, none⟩ = some a ∧ w.cell? ⟨g, 1, none⟩ = some b ∧ w.cell? ⟨g, 2, none⟩ = none := by
  refine ⟨blk_cell h rfl, blk_cell h rfl, ?_⟩
  simp [World.cell?, h]

set_option maxHeartbeats 4000000 in
set_option maxRecDepth 100000 in
theorem sorts_walk (a : Option Addr) (cap : Nat) (l : List Int) (pp : Option Addr) (pc : Nat) (pl : List Int) (W : World) (hC : Came W a 1 oneI l) (hP : Came W pp 1 oneI pl) (hG : ∀ x ∈ pl, I64 x) :
    Calls Try.prog 3 #[.slice a l.length cap, .slice pp pl.length pc] W fun e w' => e = .returned (.bool true) ∧ Below W.heap.size W w' := by
  have C := hid hC
  have PP := hid hP
  have G := hid hG
  clear hC hG hP
  go_enter Try.func3, Try.ntmps3
  go_wp2_with fail
  refine (freshW 160 W).mono ?_
  rintro e w1 ⟨pw, rfl, s1⟩
  rw [show most0 160 = 160 from rfl] at s1
  have S1 := hid s1
  clear s1
  go_wp2_with fail
  go_loopw [6] (fun iv wr => ∃ (i : Nat) (L : List (Nat × Int × Int)), iv = .int .i64 i ∧ i ≤ 60 ∧ L.length ≤ i ∧ Ser L (i : Int) ∧ Sit (Fm.of W) wr pw 160 (4000 * i) L [] (i : Int)) (fun i _ => 60 - (intOf i).toNat)
  case atStart => exact ⟨0, [], rfl, by omega, by simp, Ser.nil, S1.out⟩
  case round =>
    clear S1
    obtain ⟨i, L, rfl, hi, hL, hser, hs⟩ := hrel
    have S := hid hs
    have SE := hid hser
    clear hs hser
    go_upto_region 5 with fail
    go_cut [22] from 15 to 22 (fun v wx => v = .bool (decide (i < l.length ∧ i < 60)) ∧ wx = wr)
    case first =>
      by_cases q1 : i < l.length
      · have q1' : decide ((i : Int) < (l.length : Int)) = true := by simp; omega
        by_cases q2 : i < 60
        · have q2' : decide ((i : Int) < 60) = true := by simp; omega
          go_wp2
          go_meet
          case rel => exact ⟨by simp [q1, q2], rfl⟩
        · have q2' : decide ((i : Int) < 60) = false := by simp; omega
          go_wp2
          go_meet
          case rel => exact ⟨by simp [q1, q2], rfl⟩
      · have q1' : decide ((i : Int) < (l.length : Int)) = false := by simp; omega
        go_wp2
        go_meet
        case rel => exact ⟨by simp [q1], rfl⟩
    case rest =>
      obtain ⟨rfl, e2⟩ := hcut
      have e3 := e2.symm
      clear e2
      subst e3
      by_cases q : i < l.length ∧ i < 60
      · rw [decide_eq_true q]
        obtain ⟨q1, q2⟩ := q
        have hx : l[i]? = some l[i] := List.getElem?_eq_getElem q1
        obtain ⟨bb, off, rfl, hb, hc⟩ := C.out.get S.out.bel hx
        have c0 := hc 0 (by decide)
        simp only [Nat.mul_one, Nat.add_zero, oneI, List.getElem?_cons_zero] at c0
        have hbs : bb < wr.heap.size := Nat.lt_of_lt_of_le hb S.out.bel.size
        have cW := (C.out.get (Below.refl _ _) hx)
        obtain ⟨bb1, off1, e1, hbW, hcW⟩ := cW
        obtain ⟨rfl, rfl⟩ : bb = bb1 ∧ off = off1 := by injection e1 with e1; injection e1 with h1 h2; exact ⟨h1, h2⟩
        replace hcW := hcW 0 (by decide)
        simp only [Nat.mul_one, Nat.add_zero, oneI, List.getElem?_cons_zero] at hcW
        have HB := hid hbW
        clear e1 hbW
        generalize l[i] = key at *
        have CW := hid hcW
        clear hcW
        have q1' : (i : Int) < (l.length : Int) := by omega
        have hk1 : -50 < key.tmod 50 ∧ key.tmod 50 < 50 := by
          have h1 := Int.lt_tmod_of_pos key (show (0 : Int) < 50 by decide)
          have h2 := Int.tmod_lt_of_pos key (show (0 : Int) < 50 by decide)
          omega
        have PU := hid (push0 S.out (by simp; omega) (by omega) ⟨by omega, by omega⟩ (by omega) (key.tmod 50))
        clear hx hc hb
        go_wp2_with fail
        refine PU.out.mono ?_
        rintro e w6 ⟨rfl, j, s6⟩
        have S6 := hid s6
        have SE6 := hid (SE.out.push j (key.tmod 50) (by omega))
        have c6 := (s6.bel.cell (p := ⟨bb, off + i, none⟩) HB.out).trans CW.out
        have hbs6 : bb < w6.heap.size := Nat.lt_of_lt_of_le HB.out s6.bel.size
        clear s6 PU c0 hbs S SE
        by_cases z1 : i < pl.length
        · have z1' : (i : Int) < (pl.length : Int) := by omega
          have hz : pl[i]? = some pl[i] := List.getElem?_eq_getElem z1
          have hz64 := G.out pl[i] (List.getElem_mem z1)
          obtain ⟨b3, off3, rfl, hb3, hc3⟩ := PP.out.get S6.out.bel hz
          have d3 := hc3 0 (by decide)
          simp only [Nat.mul_one, Nat.add_zero, oneI, List.getElem?_cons_zero] at d3
          have hb3s : b3 < w6.heap.size := Nat.lt_of_lt_of_le hb3 S6.out.bel.size
          obtain ⟨b4, off4, e4, hbW, hcW⟩ := PP.out.get (Below.refl _ _) hz
          obtain ⟨rfl, rfl⟩ : b3 = b4 ∧ off3 = off4 := by injection e4 with e4; injection e4 with h1 h2; exact ⟨h1, h2⟩
          replace hcW := hcW 0 (by decide)
          simp only [Nat.mul_one, Nat.add_zero, oneI, List.getElem?_cons_zero] at hcW
          have HB3 := hid hbW
          clear e4 hbW
          generalize pl[i] = fa at *
          have CW3 := hid hcW
          clear hcW
          have hw20 : IntKind.i64.wrap (key.tmod 50 - 20) = key.tmod 50 - 20 := IntWalk.i64_in _ (by omega)
          have FA := hid (fun n => fall0S fa (key.tmod 50 - 20) hz64 (S6.out.drewN n) (by simp; omega) (by simp) (by omega))
          have SE7 := hid (SE6.out.fall fa (key.tmod 50 - 20) (by omega))
          clear hz hc3 hb3 hz64
          go_wp2_with fail
          go_region_held3 (fun w' => w'.cell? ⟨bb, off + i, none⟩ = some (.int .i64 key) ∧ w'.cell? ⟨b3, off3 + i, none⟩ = some (.int .i64 fa)) (first | exact ⟨c6, d3⟩ | (simp [go_sem]; exact ⟨c6, d3⟩))
            (first
              | (go_at_call 7; refine (FA.out 1).mono ?_; rintro e w7 ⟨rfl, s7⟩; replace c6 := (s7.bel.cell (p := ⟨bb, off + i, none⟩) HB.out).trans CW.out; replace d3 := (s7.bel.cell (p := ⟨b3, off3 + i, none⟩) HB3.out).trans CW3.out; have S7 := hid s7; clear s7))
          go_wp2
          go_roundw
          case rel => exact ⟨i + 1, fallL fa (key.tmod 50 - 20) (L ++ [(j, key.tmod 50, (i : Int))]), by go_num, by omega, by rw [fallL_len]; simp; omega, SE7.out, S7.out.mono (by omega)⟩
          case measure => simp [intOf]; omega
        · have z1' : decide ((i : Int) < (pl.length : Int)) = false := by simp; omega
          go_wp2_with fail
          go_region
          go_wp2
          go_roundw
          case rel => exact ⟨i + 1, L ++ [(j, key.tmod 50, (i : Int))], by go_num, by omega, by simp; omega, SE6.out, (S6.out.drewN _).mono (by omega)⟩
          case measure => simp [intOf]; omega
      · rw [decide_eq_false q]
        clear q
        obtain ⟨w5, rfl⟩ : ∃ w5, w5 = wr := ⟨wr, rfl⟩
        obtain ⟨h5, v0, v1, P, c3, _, l0, _⟩ := S.out.has
        obtain ⟨va, vc, rfl⟩ := l0.form
        obtain ⟨n, hn⟩ : ∃ n, n = L.length := ⟨_, rfl⟩
        rw [← hn] at c3
        have HN := hid hn
        have hn60 : n ≤ 60 := by omega
        obtain ⟨T, hT, s6⟩ := S.out.re' ((Kept.refl (fun _ => False) w5).alloc (.cells #[.int .i64 (-9223372036854775808), .int .i64 (-1)] 35))
        have hB := S.out.bel.trans (((Kept.refl (fun _ => False) w5).alloc (.cells #[.int .i64 (-9223372036854775808), .int .i64 (-1)] 35)).below S.out.bel.size (fun _ e => e.elim))
        have S6 := hid s6
        have HT := hid (show (∀ b, T b → W.heap.size ≤ b) ∧ ¬ T w5.heap.size from ⟨fun b hb => (hT b hb).1.elim (fun e => e.elim) id, fun q => by have := (hT _ q).2; omega⟩)
        have hblk := hid (heap_alloc_new w5 (.cells #[.int .i64 (-9223372036854775808), .int .i64 (-1)] 35))
        have HW5 := hid S.out.bel.size
        have HB := hid hB
        clear hn l0 S s6 hT hB
        go_upto_region 13 with fail
        clear c3 h5
        obtain ⟨g, hg⟩ : ∃ g, g = w5.heap.size := ⟨_, rfl⟩
        rw [← hg] at HT hblk HW5 ⊢
        have hgs : g < (w5.alloc (.cells #[.int .i64 (-9223372036854775808), .int .i64 (-1)] 35)).heap.size := by simp [hg]
        clear hg
        generalize w5.alloc (.cells #[.int .i64 (-9223372036854775808), .int .i64 (-1)] 35) = w6 at *
        obtain ⟨nx, hnx⟩ : ∃ nx : Int, nx = (i : Int) := ⟨_, rfl⟩
        rw [← hnx] at S6 SE
        clear hnx
        go_wp2_with fail
        go_loopw [9, 10, 11] (fun iv _ _ wr => ∃ (i : Nat) (M : List (Nat × Int × Int)) (lk ls : Int) (T : Nat → Prop), iv = .int .i64 i ∧ i ≤ n ∧ M.length = n - i ∧ Ser M nx ∧ (∀ y ∈ M, bef lk ls y.2.1 y.2.2 = true) ∧ wr.heap[g]? = some (.cells #[.int .i64 lk, .int .i64 ls] 35) ∧ (∀ b, T b → W.heap.size ≤ b) ∧ ¬ T g ∧ Below W.heap.size W wr ∧ Sit ⟨wr, T⟩ wr pw 160 (300000 + 2000 * i) M [] nx) (fun i _ _ _ => n - (intOf i).toNat)
        case atStart => exact ⟨0, L, _, _, T, rfl, by omega, by rw [← HN.out]; omega, SE.out, fun y hy => by have := (SE.out.2 y hy).2; simp [bef]; omega, hblk.out, HT.out.1, HT.out.2, HB.out, S6.out.mono (by omega)⟩
        case round =>
          clear hgs hblk HT HB S6 SE
          obtain ⟨i', M, lk, ls, T', rfl, hi', hM, hse, hbf, hblk, hT, hTg, hB, s5⟩ := hrel
          have hgs : g < wr.heap.size := lt_of_block hblk
          by_cases hlt : i' < n
          · have hlt' : (i' : Int) < (n : Int) := by omega
            obtain ⟨x, hx⟩ := lst_some0 (L := M) (by omega)
            obtain ⟨pa, r, hl0, c0, c1, mn⟩ := s5.min0 hx (by omega)
            have MN := hid mn
            have HX := hid hx
            have BK := hid hblk
            have HS := hid hse
            have HBF := hid hbf
            have HT := hid hT
            have HTG := hid hTg
            have HB := hid hB
            have HM := hid hM
            clear mn hx hblk hse hbf hT hTg hB s5 hM
            go_wp2_with fail
            go_region_held3 (fun w' => w'.cell? ⟨pw, 0, none⟩ = some (.pointer (some ⟨pa, 0, none⟩)) ∧ w'.cell? ⟨pw, 1, none⟩ = some (.int .i64 r)) (first | exact ⟨c0, c1⟩ | (simp [go_sem]; exact ⟨c0, c1⟩))
              (first
                | (go_at_call 8; refine (MN.out _ (by first | exact Kept.refl _ _ | exact (Kept.refl _ _).drew | exact (Kept.refl _ _).drewN _)).mono ?_; rintro e w2 ⟨rfl, hc, s2⟩; replace c0 := (hc 0).trans c0; replace c1 := (hc 1).trans c1; have S2 := hid s2; clear hc s2))
            clear c1 hl0 MN
            obtain ⟨pa2, h2, d0, en⟩ := S2.out.entry0 (x := x) (List.mem_of_getElem? HX.out) (by omega)
            obtain rfl : pa = pa2 := by have := c0.symm.trans d0; simpa using this
            have EN := hid en
            clear en S2 c0
            go_wp2_with fail
            refine (EN.out _ (Kept.refl _ _)).mono ?_
            rintro e w3 ⟨rfl, s3⟩
            clear EN d0 h2
            have B3 := hid ((s3.kep.block g hgs HTG.out).trans BK.out)
            have hg3 : g < w3.heap.size := lt_of_block B3.out
            have ka := (Kept.refl (fun _ => False) w3).alloc (.cells #[.int .i64 x.2.1, .int .i64 x.2.2] 35)
            obtain ⟨T2, hT2, s4⟩ := s3.re' ka
            have BG := hid ((ka.block g hg3 (fun e => e)).trans B3.out)
            have BE := hid (heap_alloc_new w3 (.cells #[.int .i64 x.2.1, .int .i64 x.2.2] 35))
            have T2G := hid (show ¬ T2 g from fun q => (hT2 g q).1.elim HTG.out fun z => by have : wr.heap.size ≤ g := z; omega)
            have T2E := hid (show ¬ T2 w3.heap.size from fun q => by have := (hT2 _ q).2; omega)
            have T2W := hid (show ∀ b, T2 b → W.heap.size ≤ b from fun b hb => (hT2 b hb).1.elim (HT.out b) fun z => Nat.le_trans HB.out.size z)
            have B4 := hid ((HB.out.trans (s3.kep.below HB.out.size HT.out)).trans (ka.below (Nat.le_trans HB.out.size s3.kep.size) (fun _ e => e.elim)))
            have S4 := hid s4
            have HGE := hid (show w3.heap.size < (w3.alloc (.cells #[.int .i64 x.2.1, .int .i64 x.2.2] 35)).heap.size by simp)
            have HG4 := hid (show g < (w3.alloc (.cells #[.int .i64 x.2.1, .int .i64 x.2.2] 35)).heap.size by simp; omega)
            have HGG := hid (show g ≠ w3.heap.size by omega)
            clear s3 s4 ka hT2 HT HTG HB B3 BK hg3 hgs
            go_upto_region 18 with fail
            generalize w3.alloc (.cells #[.int .i64 x.2.1, .int .i64 x.2.2] 35) = w4 at *
            generalize w3.heap.size = ge at *
            obtain ⟨g0, g1, _⟩ := blk_two BG.out
            obtain ⟨e0, e1, _⟩ := blk_two BE.out
            have hgl : g < w4.heap.size := HG4.out
            have hel : ge < w4.heap.size := HGE.out
            have BF := hid (refBefore_any lk ls x.2.1 x.2.2 w4)
            rw [HBF.out x (List.mem_of_getElem? HX.out)] at BF
            have PO := hid (fun c1 c2 => pop0S (S4.out.plain (((Kept.refl _ w4).alloc (.cells c1 35)).alloc (.cells c2 35))) (by rw [HM.out]; omega) (by omega))
            go_wp2_with fail
            refine BF.out.mono ?_
            rintro e w5 ⟨rfl, k1, k2, rfl⟩
            clear BF
            go_wp2_with fail
            refine (PO.out k1 k2).mono ?_
            rintro e w6 ⟨rfl, s6⟩
            have BG6 := hid ((s6.kep.block g hgl T2G.out).trans BG.out)
            have BE6 := hid ((s6.kep.block ge hel T2E.out).trans BE.out)
            have KB := hid (s6.kep.below B4.out.size T2W.out)
            have S6 := hid s6
            obtain ⟨h6, v0, v1, P, c3, _, l0, _⟩ := s6.has
            obtain ⟨va6, vc6, rfl⟩ := l0.form
            have hpl : (popL M).length = n - i' - 1 := by
              have := HM.out
              rw [popL_len (fun z => by rw [z] at this; simp at this; omega)]; omega
            obtain ⟨nn, hnn⟩ : ∃ nn, nn = (popL M).length := ⟨_, rfl⟩
            rw [← hnn] at c3
            have HNN := hid (show (popL M).length = n - i' - 1 from hpl)
            have hsub : (n : Int) - 1 - (i' : Int) = (nn : Int) := by omega
            have hw1 : IntKind.i64.wrap ((n : Int) - 1) = (n : Int) - 1 := IntWalk.i64_in _ (by omega)
            have hw2 : IntKind.i64.wrap (nn : Int) = (nn : Int) := IntWalk.i64_in _ (by omega)
            clear s6 PO l0 hpl hnn g0 g1 e0 e1 hgl hel
            obtain ⟨g0, g1, g2⟩ := blk_two BG6.out
            obtain ⟨e0, e1, _⟩ := blk_two BE6.out
            have hg6 : g < w6.heap.size := lt_of_block BG6.out
            have he6 : ge < w6.heap.size := lt_of_block BE6.out
            have f0 : w6.frozen? ⟨g, 0, none⟩ = false := blk_free BG6.out
            have f1 : w6.frozen? ⟨g, 1, none⟩ = false := blk_free BG6.out
            have G2 := hid g2
            clear g2
            go_wp2
            go_roundw
            case rel =>
              have kg : Kept (fun b => b = g) w6 ((w6.setCell ⟨g, 0, none⟩ (.int .i64 x.2.1)).setCell ⟨g, 1, none⟩ (.int .i64 x.2.2)) := (kept_pw w6 g 0 _).trans' (kept_pw _ g 1 _)
              obtain ⟨T3, hT3, s7⟩ := S6.out.box G2.out ⟨T2G.out, HG4.out⟩ kg
              refine ⟨i' + 1, popL M, x.2.1, x.2.2, T3, by go_num, by omega, by rw [HNN.out]; omega, HS.out.sub popL_sub, HS.out.least HX.out, ?_, fun b hb => (hT3 b hb).1.elim (T2W.out b) (fun z => Nat.le_trans B4.out.size z), fun q => (hT3 g q).1.elim T2G.out (fun z => by have h1 : w4.heap.size ≤ g := z; have := HG4.out; omega), ?_, s7.mono (by omega)⟩
              · have b1 := blk_set (j := 1) (u := .int .i64 x.2.2) (blk_set (j := 0) (u := .int .i64 x.2.1) BG6.out)
                simp at b1
                exact b1
              · exact (B4.out.trans KB.out).trans (kg.below (B4.out.trans KB.out).size (fun b q => by rw [q]; exact HW5.out))
            case measure => simp [intOf]; omega
          · have hge : decide ((i' : Int) < (n : Int)) = false := by simp; omega
            obtain rfl : M = [] := List.eq_nil_of_length_eq_zero (by omega)
            have n0 := s5.none0
            obtain ⟨pa, hl0, c0, ln⟩ := s5.len
            have LN := hid ln
            have HB := hid hB
            clear ln hblk hse hbf hT hTg hB s5 hM
            go_wp2_with fail
            refine (LN.out _ (Kept.refl _ _)).mono ?_
            rintro e w7 ⟨rfl, m, rfl⟩
            simp only [List.length_nil, Nat.add_zero, Nat.mul_zero]
            go_wp2_with fail
            refine (known_any _).mono ?_
            rintro e w9 ⟨rfl, b9⟩
            have B9 := hid ((below_drewN HB.out m).trans (b9.mono HB.out.size))
            go_wp2
            go_ret
            exact ⟨rfl, B9.out⟩
end Go.Proofs.Ythfdooigljkfiaa
