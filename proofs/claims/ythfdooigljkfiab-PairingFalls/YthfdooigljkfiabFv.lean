/- The walk of LeftistFalls. -/
import Derived.Test.YthfdooigljkfiabLift
import Derived.Test.YthfdooigljkfiabGi
import Derived.Test.YthfdooigljkfiabKn
import Derived.Test.YthfdooigljkfiabGl
import Derived.Test.YthfdooigljkfiabFa0
import Derived.Test.YthfdooigljkfiabCu0
import Derived.Test.YthfdooigljkfiabRg
namespace Go.Proofs.Ythfdooigljkfiab
open Go.ChangeShapes Go.WideShapes Go.ChangeAt Go.RowKit
open Tr

theorem fall0S {w0 : Fm} {w : World} {pw N K : Nat} {L0 L1 : List (Nat × Int × Int)} {nx : Int} (at0 by0 : Int) (hat : I64 at0) (h : Sit w0 w pw N K L0 L1 nx) (hl : L0.length ≤ 700) (hl' : L1.length ≤ 700) (hK : K ≤ 90000000) :
    Calls Try.prog 8 #[.pointer (some ⟨pw, 0, none⟩), .int .i64 0, .int .i64 at0, .int .i64 by0] w fun e w' => e = .returned (.bool true) ∧ Sit w0 w' pw N (K + 2000) (fallL at0 by0 L0) L1 nx := by
  by_cases h0 : L0 = []
  · refine (fall0_none at0 by0 h h0).mono ?_
    rintro e w1 ⟨rfl, s1⟩
    subst h0
    exact ⟨rfl, by rw [fallL_nil]; exact s1.mono (by omega)⟩
  · exact fall0_some at0 by0 hat h h0 hl hl' hK
theorem cut0S {w0 : Fm} {w : World} {pw N K : Nat} {L0 L1 : List (Nat × Int × Int)} {nx : Int} (at0 : Int) (hat : I64 at0) (h : Sit w0 w pw N K L0 L1 nx) (hl : L0.length ≤ 700) (hl' : L1.length ≤ 700) (hK : K ≤ 90000000) :
    Calls Try.prog 10 #[.pointer (some ⟨pw, 0, none⟩), .int .i64 0, .int .i64 at0] w fun e w' => e = .returned (.bool true) ∧ Sit w0 w' pw N (K + 2000) (cutL at0 L0) L1 nx := by
  by_cases h0 : L0 = []
  · refine (cut0_none at0 h h0).mono ?_
    rintro e w1 ⟨rfl, s1⟩
    subst h0
    exact ⟨rfl, by rw [cutL_nil]; exact s1.mono (by omega)⟩
  · exact cut0_some at0 hat h h0 hl hl' hK
/-- one that falls below all is the least -/
theorem fall_least {n key : Int} {L : List (Nat × Int × Int)} {x : Nat × Int × Int} (hx : L[winN n L.length]? = some x) (hk : ∀ y ∈ L, key < y.2.1) :
    (fallL n key L)[lstS (fallL n key L) ((fallL n key L).length - 1)]? = some (x.1, key, x.2.2) := by
  have e := fallL_some (key := key) hx
  have hm : min x.2.1 key = key := by have := hk x (List.mem_of_getElem? hx); omega
  rw [hm] at e
  have hpos : 0 < (fallL n key L).length := by rw [e]; simp
  obtain ⟨y, hy, hl⟩ := lst_least (fallL n key L) ((fallL n key L).length - 1) (by omega)
  rw [hy]
  have hlast : (fallL n key L)[(cutL n L).length]? = some (x.1, key, x.2.2) := by rw [e]; simp
  have q := hl (cutL n L).length (by rw [e]; simp) _ hlast
  have hym : y ∈ fallL n key L := List.mem_of_getElem? hy
  rw [e, List.mem_append] at hym
  rcases hym with hym | hym
  · have := hk y ((cutL_sub n).subset hym)
    simp [befH, bef] at q
    omega
  · simp at hym; rw [hym]
/-- back to an older frame -/
theorem Sit.back {w0 : Fm} {w6 w8 : World} {T : Nat → Prop} {pw N K : Nat} {L0 L1 : List (Nat × Int × Int)} {nx : Int} (h : Sit ⟨w6, T⟩ w8 pw N K L0 L1 nx) (hT : ∀ b, T b → w0.T b ∨ w0.w.heap.size ≤ b) (k : Kept w0.T w0.w w6) : Sit w0 w8 pw N K L0 L1 nx := by
  obtain ⟨F, pa, pm, v0, v1, s, t, u, sp, mo, h1, h2⟩ := h
  exact ⟨F, pa, pm, v0, v1, s, t, u, sp, mo, ⟨h1.blk, h1.is, h1.out, h1.l0, h1.l1, fun b hb => (h1.new b hb).elim (hT b) fun z => Or.inr (Nat.le_trans k.size z), h1.pwn.elim (hT pw) fun z => Or.inr (Nat.le_trans k.size z), k.over h1.kep hT⟩, h2⟩
theorem blk_three {w : World} {g : Nat} {a b c : Value} {t : TypeId} (h : w.heap[g]? = some (.cells #[a, b, c] t)) : w.cell? ⟨g, 0, none⟩ = some a := blk_cell h rfl

set_option maxHeartbeats 4000000 in
set_option maxRecDepth 100000 in
theorem falls_walk (a : Option Addr) (cap : Nat) (l : List Int) (pp : Option Addr) (pc : Nat) (pl : List Int) (qq : Option Addr) (qc : Nat) (ql : List Int) (W : World) (hC : Came W a 1 oneI l) (hP : Came W pp 1 oneI pl) (hG : ∀ x ∈ pl, I64 x) (hQ : Came W qq 1 oneI ql) (hQG : ∀ x ∈ ql, I64 x) :
    Calls Try.prog 3 #[.slice a l.length cap, .slice pp pl.length pc, .slice qq ql.length qc] W fun e w' => e = .returned (.bool true) ∧ Below W.heap.size W w' := by
  have C := hid hC
  have PP := hid hP
  have G := hid hG
  have QQ := hid hQ
  have QG := hid hQG
  clear hC hG hP hQ hQG
  go_enter Try.func3, Try.ntmps3
  go_wp2_with fail
  refine (freshW 160 W).mono ?_
  rintro e w1 ⟨pw, rfl, s1⟩
  rw [show most0 160 = 160 from rfl] at s1
  have S1 := hid s1
  clear s1
  go_wp2_with fail
  go_loopw [8] (fun iv wr => ∃ (i : Nat) (L : List (Nat × Int × Int)), iv = .int .i64 i ∧ i ≤ 50 ∧ L.length ≤ i ∧ (∀ x ∈ L, -1000 ≤ x.2.1) ∧ Sit (Fm.of W) wr pw 160 (4000 * i) L [] (i : Int)) (fun i _ => 50 - (intOf i).toNat)
  case atStart => exact ⟨0, [], rfl, by omega, by simp, fun x hx => by simp at hx, S1.out⟩
  case round =>
    clear S1
    obtain ⟨i, L, rfl, hi, hL, hser, hs⟩ := hrel
    have S := hid hs
    have SE := hid hser
    clear hs hser
    go_upto_region 5 with fail
    go_cut [23] from 16 to 23 (fun v wx => v = .bool (decide (i < l.length ∧ i < 50)) ∧ wx = wr)
    case first =>
      by_cases q1 : i < l.length
      · have q1' : decide ((i : Int) < (l.length : Int)) = true := by simp; omega
        by_cases q2 : i < 50
        · have q2' : decide ((i : Int) < 50) = true := by simp; omega
          go_wp2
          go_meet
          case rel => exact ⟨by simp [q1, q2], rfl⟩
        · have q2' : decide ((i : Int) < 50) = false := by simp; omega
          go_wp2
          go_meet
          case rel => exact ⟨by simp [q1, q2], rfl⟩
      · have q1' : decide ((i : Int) < (l.length : Int)) = false := by simp; omega
        go_wp2
        go_meet
        case rel => exact ⟨by simp [q1], rfl⟩
    case rest =>
      obtain ⟨rfl, e2⟩ := hcut
      have e3 := e2.symm
      clear e2
      subst e3
      by_cases q : i < l.length ∧ i < 50
      · rw [decide_eq_true q]
        obtain ⟨q1, q2⟩ := q
        have hx : l[i]? = some l[i] := List.getElem?_eq_getElem q1
        obtain ⟨bb, off, rfl, hb, hc⟩ := C.out.get S.out.bel hx
        have c0 := hc 0 (by decide)
        simp only [Nat.mul_one, Nat.add_zero, oneI, List.getElem?_cons_zero] at c0
        have hbs : bb < wr.heap.size := Nat.lt_of_lt_of_le hb S.out.bel.size
        generalize l[i] = key at *
        have q1' : (i : Int) < (l.length : Int) := by omega
        have hk1 : -100 < key.tmod 100 ∧ key.tmod 100 < 100 := by
          have h1 := Int.lt_tmod_of_pos key (show (0 : Int) < 100 by decide)
          have h2 := Int.tmod_lt_of_pos key (show (0 : Int) < 100 by decide)
          omega
        have PU := hid (push0 S.out (by simp; omega) (by omega) ⟨by omega, by omega⟩ (by omega) (key.tmod 100))
        clear hx hc hb
        go_wp2_with fail
        refine PU.out.mono ?_
        rintro e w6 ⟨rfl, j, s6⟩
        have S6 := hid s6
        clear s6 PU c0 hbs S
        go_wp2
        go_roundw
        case rel => exact ⟨i + 1, L ++ [(j, key.tmod 100, (i : Int))], by go_num, by omega, by simp; omega, fun x hx => by rw [List.mem_append] at hx; rcases hx with hx | hx; exact SE.out x hx; simp at hx; subst hx; simp only; omega, S6.out.mono (by omega)⟩
        case measure => simp [intOf]; omega
      · rw [decide_eq_false q]
        clear q
        obtain ⟨w5, rfl⟩ : ∃ w5, w5 = wr := ⟨wr, rfl⟩
        obtain ⟨nx, hnx⟩ : ∃ nx : Int, nx = (i : Int) := ⟨_, rfl⟩
        rw [← hnx] at S
        have S2 := hid (S.out.mono (show 4000 * i ≤ 300000 by omega))
        have hL5 : L.length ≤ 50 := by omega
        clear hnx S
        go_wp2_with fail
        go_loopw [9, 10, 11, 12] (fun lv iv _ _ wr => ∃ (i : Nat) (M : List (Nat × Int × Int)), lv = .int .i64 (-1000 - (i : Int)) ∧ iv = .int .i64 i ∧ i ≤ 20 ∧ M.length ≤ 50 ∧ (∀ x ∈ M, -1000 - (i : Int) ≤ x.2.1) ∧ Sit (Fm.of W) wr pw 160 (300000 + 190000 * i) M [] nx) (fun _ i _ _ _ => 20 - (intOf i).toNat)
        case atStart => exact ⟨0, L, rfl, rfl, by omega, hL5, fun x hx => by have := SE.out x hx; omega, S2.out⟩
        case round =>
          clear S2 SE hL5 hL
          obtain ⟨i', M, rfl, rfl, hi', hM, hlow, hs⟩ := hrel
          have LOW := hid hlow
          have S := hid hs
          obtain ⟨h5, v0, v1, P, c3, _, l0, _⟩ := hs.has
          obtain ⟨va, vc, rfl⟩ := l0.form
          obtain ⟨n, hn⟩ : ∃ n, n = M.length := ⟨_, rfl⟩
          rw [← hn] at c3
          have HN := hid hn
          have hn50 : n ≤ 50 := by omega
          clear hs hlow l0 hn
          go_upto_region 11 with fail
          go_cut [50] from 34 to 50 (fun v wx => v = .bool (decide (i' < pl.length ∧ i' < 20 ∧ 0 < n)) ∧ wx = wr)
          case first =>
            by_cases q1 : i' < pl.length
            · have q1' : decide ((i' : Int) < (pl.length : Int)) = true := by simp; omega
              by_cases q2 : i' < 20
              · have q2' : decide ((i' : Int) < 20) = true := by simp; omega
                by_cases q3 : 0 < n
                · have q3' : decide ((0 : Int) < (n : Int)) = true := by simp; omega
                  go_wp2
                  go_meet
                  case rel => exact ⟨by simp [q1, q2, q3], rfl⟩
                · have q3' : decide ((0 : Int) < (n : Int)) = false := by simp; omega
                  go_wp2
                  go_meet
                  case rel => exact ⟨by simp [q1, q2, q3], rfl⟩
              · have q2' : decide ((i' : Int) < 20) = false := by simp; omega
                go_wp2
                go_meet
                case rel => exact ⟨by simp [q1, q2], rfl⟩
            · have q1' : decide ((i' : Int) < (pl.length : Int)) = false := by simp; omega
              go_wp2
              go_meet
              case rel => exact ⟨by simp [q1], rfl⟩
          case rest =>
            obtain ⟨rfl, e2⟩ := hcut
            have e3 := e2.symm
            clear e2
            subst e3
            by_cases q : i' < pl.length ∧ i' < 20 ∧ 0 < n
            · rw [decide_eq_true q]
              obtain ⟨q1, q2, q3⟩ := q
              have hz : pl[i']? = some pl[i'] := List.getElem?_eq_getElem q1
              have hz64 := G.out pl[i'] (List.getElem_mem q1)
              obtain ⟨b3, off3, rfl, hbW, hcW⟩ := PP.out.get (Below.refl _ _) hz
              replace hcW := hcW 0 (by decide)
              simp only [Nat.mul_one, Nat.add_zero, oneI, List.getElem?_cons_zero] at hcW
              generalize pl[i'] = who at *
              have HB3 := hid hbW
              have CW3 := hid hcW
              have HW64 := hid hz64
              have d3 := (S.out.bel.cell (p := ⟨b3, off3 + i', none⟩) hbW).trans hcW
              have hb3s : b3 < wr.heap.size := Nat.lt_of_lt_of_le hbW S.out.bel.size
              clear hz hbW hcW hz64
              have q1' : (i' : Int) < (pl.length : Int) := by omega
              -- which one
              obtain ⟨hkl, hke⟩ := winN_lt who q3
              obtain ⟨k, hkk⟩ : ∃ k, k = winN who n := ⟨_, rfl⟩
              rw [← hkk] at hkl hke
              have hkM : k < M.length := by rw [← HN.out]; exact hkl
              have hx : M[k]? = some M[k] := List.getElem?_eq_getElem hkM
              generalize M[k] = x at hx
              clear hkM
              have HX := hid (show M[winN who M.length]? = some x by rw [← HN.out, ← hkk]; exact hx)
              obtain ⟨_, v0', v1', P', c3', _, l0', _⟩ := S.out.has
              obtain ⟨xb, xcap, hv, _, hxb, _, x1, x2, x3⟩ := l0'.at hx
              rw [hv, ← HN.out] at c3'
              obtain ⟨rfl, rfl⟩ : va = some ⟨xb, 0, none⟩ ∧ vc = xcap := by have := c3.symm.trans c3'; simp at this; exact this
              have hwd : IntKind.i64.wrap ((n : Int) - 1) = (n : Int) - 1 := IntWalk.i64_in _ (by omega)
              have hwl : IntKind.i64.wrap (-1000 - (i' : Int) - 1) = -1000 - (i' : Int) - 1 := IntWalk.i64_in _ (by omega)
              have WI := hid (fun w1 => within_eq who HW64.out ((n : Int) - 1) (by omega) (by omega) w1)
              rw [hke] at WI
              have hkn : (k : Int) < (n : Int) := by omega
              have HKK := hid hkk
              clear hx hkk hke l0' hv c3'
              have n1 := World.new_ne wr _ c3
              have n2 := World.new_ne wr _ d3
              have n3 := World.new_ne wr _ x1
              have n4 := World.new_ne wr _ x2
              have n5 := World.new_ne wr _ x3
              go_upto_region 14 with fail
              go_cut [11] from 55 to 73 (fun v wx => v = .pointer (some ⟨wr.heap.size, 0, none⟩) ∧ wx = (wr.alloc (.cells #[.int .i64 (x.1 : Int), .int .i64 x.2.1, .int .i64 x.2.2] 36)).drew)
              case first =>
                go_region_held3 (fun w' => w'.cell? ⟨pw, 3, none⟩ = some (.slice (some ⟨xb, 0, none⟩) n vc) ∧ w'.cell? ⟨b3, off3 + i', none⟩ = some (.int .i64 who) ∧ w'.cell? ⟨xb, k * 3, none⟩ = some (.int .i64 (x.1 : Int)) ∧ w'.cell? ⟨xb, k * 3 + 1, none⟩ = some (.int .i64 x.2.1) ∧ w'.cell? ⟨xb, k * 3 + 2, none⟩ = some (.int .i64 x.2.2)) (go_keep)
                  (first
                    | (go_at_call 7; refine (WI.out _).mono ?_; rintro e w7 ⟨rfl, rfl⟩))
                all_goals go_wp2
                all_goals go_meet
                all_goals exact ⟨rfl, rfl⟩
              case rest =>
                obtain ⟨rfl, e2⟩ := hcut
                obtain ⟨T, hT, s6⟩ := S.out.re' (((Kept.refl (fun _ => False) wr).alloc (.cells #[.int .i64 (x.1 : Int), .int .i64 x.2.1, .int .i64 x.2.2] 36)).drew)
                have K6 := hid (S.out.kep.over (((Kept.refl (fun _ => False) wr).alloc (.cells #[.int .i64 (x.1 : Int), .int .i64 x.2.1, .int .i64 x.2.2] 36)).drew) (fun _ e => e.elim))
                have y1 : (wr.alloc (.cells #[.int .i64 (x.1 : Int), .int .i64 x.2.1, .int .i64 x.2.2] 36)).drew.cell? ⟨wr.heap.size, 0, none⟩ = some (.int .i64 (x.1 : Int)) := blk_three (heap_alloc_new wr (.cells #[.int .i64 (x.1 : Int), .int .i64 x.2.1, .int .i64 x.2.2] 36))
                have hg : wr.heap.size < (wr.alloc (.cells #[.int .i64 (x.1 : Int), .int .i64 x.2.1, .int .i64 x.2.2] 36)).drew.heap.size := by show _ < (wr.alloc _).heap.size; simp
                have TG := hid (show ¬ T wr.heap.size from fun q => by have := (hT _ q).2; omega)
                have TW := hid (show ∀ b, T b → (Fm.of W).T b ∨ (Fm.of W).w.heap.size ≤ b from fun b hb => (hT b hb).1)
                have S6 := hid s6
                clear s6 hT S n1 n2 n3 n4 n5 x1 x2 x3 c3 d3 hb3s WI hxb h5
                rw [← e2] at K6 y1 hg S6
                clear e2
                generalize wr.heap.size = g at *
                obtain ⟨w6, rfl⟩ : ∃ w6, w6 = wc := ⟨wc, rfl⟩
                have Y1 := hid y1
                have HG := hid hg
                have B6 := hid (show Below W.heap.size W w6 from K6.out.below (Nat.le_refl _) (fun _ e => e.elim))
                have d3 := (B6.out.cell (p := ⟨b3, off3 + i', none⟩) HB3.out).trans CW3.out
                have hb3s : b3 < w6.heap.size := Nat.lt_of_lt_of_le HB3.out B6.out.size
                obtain ⟨low, hlow⟩ : ∃ low : Int, low = -1000 - (i' : Int) - 1 := ⟨_, rfl⟩
                rw [← hlow] at hwl ⊢
                have HLOW := hid hlow
                have FA := hid (fun w1 (k1 : Kept (fun _ => False) w6 w1) => fall0S who low HW64.out (S6.out.plain k1) (by omega) (by simp) (by omega))
                have LE := hid (fall_least (key := low) HX.out (fun y hy => by have := LOW.out y hy; omega))
                clear hlow hwl
                go_upto_region 15 with fail
                go_cut [96] from 74 to 96 (fun v wx => v = .bool false ∧ Sit (Fm.of W) wx pw 160 (300000 + 190000 * i' + 2200) (fallL who low M) [] nx)
                case first =>
                  refine wp_region_noPanic ?_
                  refine wp_region_held_drew (S := (fun w' => w'.cell? ⟨b3, off3 + i', none⟩ = some (.int .i64 who) ∧ w'.cell? ⟨g, 0, none⟩ = some (.int .i64 (x.1 : Int)))) (by kernel_rfl) (by exact ⟨d3, y1⟩) (fun hHeld => ?_)
                  refine ord_take 0 74 (.pointer (some ⟨pw, 0, none⟩)) rfl rfl (by kernel_rfl) (by kernel_rfl) (by kernel_rfl) (fun _ _ _ h => h) (by rfl) (fun wS hS => by (try dsimp only at hS); go_split_ands; go_simp) (by assumption) ?_
                  simp only [Act.put, List.setIfInBounds_toArray, List.set_cons_zero, List.set_cons_succ]
                  refine ord_take 1 75 (.slice (some ⟨b3, off3, none⟩) pl.length pc) rfl rfl (by kernel_rfl) (by kernel_rfl) (by kernel_rfl) (fun _ _ _ h => h) (by rfl) (fun wS hS => by (try dsimp only at hS); go_split_ands; go_simp) (by assumption) ?_
                  simp only [Act.put, List.setIfInBounds_toArray, List.set_cons_zero, List.set_cons_succ]
                  refine ord_take 2 76 (.int .i64 (i' : Int)) rfl rfl (by kernel_rfl) (by kernel_rfl) (by kernel_rfl) (fun _ _ _ h => h) (by rfl) (fun wS hS => by (try dsimp only at hS); go_split_ands; go_simp) (by assumption) ?_
                  simp only [Act.put, List.setIfInBounds_toArray, List.set_cons_zero, List.set_cons_succ]
                  refine ord_take 3 77 (.pointer (some ⟨b3, off3 + i', none⟩)) rfl rfl (by kernel_rfl) (by kernel_rfl) (by kernel_rfl) (fun _ _ _ h => h) (by rfl) (fun wS hS => by (try dsimp only at hS); go_split_ands; go_simp) (by assumption) ?_
                  simp only [Act.put, List.setIfInBounds_toArray, List.set_cons_zero, List.set_cons_succ]
                  refine ord_take 4 78 (.int .i64 who) rfl rfl (by kernel_rfl) (by kernel_rfl) (by kernel_rfl) (fun _ _ _ h => h) (by rfl) (fun wS hS => by (try dsimp only at hS); go_split_ands; go_simp) (by assumption) ?_
                  simp only [Act.put, List.setIfInBounds_toArray, List.set_cons_zero, List.set_cons_succ]
                  refine ord_take 5 79 (.int .i64 low) rfl rfl (by kernel_rfl) (by kernel_rfl) (by kernel_rfl) (fun _ _ _ h => h) (by rfl) (fun wS hS => by (try dsimp only at hS); go_split_ands; go_simp) (by assumption) ?_
                  simp only [Act.put, List.setIfInBounds_toArray, List.set_cons_zero, List.set_cons_succ]
                  refine wpAnyH_ready (rs := [6]) (by kernel_rfl) (by simp) ?_
                  refine AllReadyH.cons rfl (fun K hK => ?_) AllReadyH.nil
                  go_simp
                  refine (FA.out _ (by first | exact Kept.refl _ _ | exact (Kept.refl _ _).drew | exact (Kept.refl _ _).drewN _)).mono ?_
                  rintro e w7 ⟨rfl, s7⟩
                  replace y1 := (s7.kep.cell (p := ⟨g, 0, none⟩) HG.out TG.out).trans Y1.out
                  replace d3 := ((s7.back TW.out K6.out).bel.cell (p := ⟨b3, off3 + i', none⟩) HB3.out).trans CW3.out
                  obtain ⟨pa, r, hl7, c0, c1, mn⟩ := s7.min0 LE.out (by omega)
                  have MN := hid mn
                  clear mn s7 FA
                  go_wp2_with fail
                  refine hK.out _ _ ⟨d3, y1⟩ (fun hHeld => ?_)
                  clear hK K
                  refine ord_take 7 81 (.bool false) rfl rfl (by kernel_rfl) (by kernel_rfl) (by kernel_rfl) (fun _ _ _ h => h) (by rfl) (fun wS hS => by (try dsimp only at hS); go_split_ands; go_simp) (by assumption) ?_
                  simp only [Act.put, List.setIfInBounds_toArray, List.set_cons_zero, List.set_cons_succ]
                  refine ord_take 8 82 (.bool false) rfl rfl (by kernel_rfl) (by kernel_rfl) (by kernel_rfl) (fun _ _ _ h => h) (by rfl) (fun wS hS => by (try dsimp only at hS); go_split_ands; go_simp) (by assumption) ?_
                  simp only [Act.put, List.setIfInBounds_toArray, List.set_cons_zero, List.set_cons_succ]
                  refine ord_take 9 83 (.pointer (some ⟨pw, 0, none⟩)) rfl rfl (by kernel_rfl) (by kernel_rfl) (by kernel_rfl) (fun _ _ _ h => h) (by rfl) (fun wS hS => by (try dsimp only at hS); go_split_ands; go_simp) (by assumption) ?_
                  simp only [Act.put, List.setIfInBounds_toArray, List.set_cons_zero, List.set_cons_succ]
                  refine ord_take 10 84 (.pointer (some ⟨pw, 0, none⟩)) rfl rfl (by kernel_rfl) (by kernel_rfl) (by kernel_rfl) (fun _ _ _ h => h) (by rfl) (fun wS hS => by (try dsimp only at hS); go_split_ands; go_simp) (by assumption) ?_
                  simp only [Act.put, List.setIfInBounds_toArray, List.set_cons_zero, List.set_cons_succ]
                  refine ord_take 11 85 (.pointer (some ⟨pw, 0, none⟩)) rfl rfl (by kernel_rfl) (by kernel_rfl) (by kernel_rfl) (fun _ _ _ h => h) (by rfl) (fun wS hS => by (try dsimp only at hS); go_split_ands; go_simp) (by assumption) ?_
                  simp only [Act.put, List.setIfInBounds_toArray, List.set_cons_zero, List.set_cons_succ]
                  refine ord_take 13 87 (.pointer (some ⟨pw, 0, none⟩)) rfl rfl (by kernel_rfl) (by kernel_rfl) (by kernel_rfl) (fun _ _ _ h => h) (by rfl) (fun wS hS => by (try dsimp only at hS); go_split_ands; go_simp) (by assumption) ?_
                  simp only [Act.put, List.setIfInBounds_toArray, List.set_cons_zero, List.set_cons_succ]
                  refine ord_take 14 88 (.pointer (some ⟨pw, 0, none⟩)) rfl rfl (by kernel_rfl) (by kernel_rfl) (by kernel_rfl) (fun _ _ _ h => h) (by rfl) (fun wS hS => by (try dsimp only at hS); go_split_ands; go_simp) (by assumption) ?_
                  simp only [Act.put, List.setIfInBounds_toArray, List.set_cons_zero, List.set_cons_succ]
                  refine ord_take 15 89 (.pointer (some ⟨pw, 1, none⟩)) rfl rfl (by kernel_rfl) (by kernel_rfl) (by kernel_rfl) (fun _ _ _ h => h) (by rfl) (fun wS hS => by (try dsimp only at hS); go_split_ands; go_simp) (by assumption) ?_
                  simp only [Act.put, List.setIfInBounds_toArray, List.set_cons_zero, List.set_cons_succ]
                  refine ord_take 16 90 (.pointer (some ⟨pw, 1, none⟩)) rfl rfl (by kernel_rfl) (by kernel_rfl) (by kernel_rfl) (fun _ _ _ h => h) (by rfl) (fun wS hS => by (try dsimp only at hS); go_split_ands; go_simp) (by assumption) ?_
                  simp only [Act.put, List.setIfInBounds_toArray, List.set_cons_zero, List.set_cons_succ]
                  refine ord_take 19 93 (.pointer (some ⟨g, 0, none⟩)) rfl rfl (by kernel_rfl) (by kernel_rfl) (by kernel_rfl) (fun _ _ _ h => h) (by rfl) (fun wS hS => by (try dsimp only at hS); go_split_ands; go_simp) (by assumption) ?_
                  simp only [Act.put, List.setIfInBounds_toArray, List.set_cons_zero, List.set_cons_succ]
                  refine ord_take 20 94 (.int .i64 (x.1 : Int)) rfl rfl (by kernel_rfl) (by kernel_rfl) (by kernel_rfl) (fun _ _ _ h => h) (by rfl) (fun wS hS => by (try dsimp only at hS); go_split_ands; go_simp) (by assumption) ?_
                  simp only [Act.put, List.setIfInBounds_toArray, List.set_cons_zero, List.set_cons_succ]
                  refine wpAnyH_ready (rs := [12, 17]) (by kernel_rfl) (by simp) ?_
                  refine AllReadyH.cons rfl (fun K hK => ?_) (AllReadyH.cons rfl (fun K hK => ?_) AllReadyH.nil)
                  · go_simp
                    go_wp2_with fail
                    refine hK.out _ _ ⟨d3, y1⟩ (fun hHeld => ?_)
                    clear hK K
                    refine wpAnyH_ready (rs := [17]) (by kernel_rfl) (by simp) ?_
                    refine AllReadyH.cons rfl (fun K hK => ?_) AllReadyH.nil
                    go_simp
                    go_wp2_with fail
                    refine hK.out _ _ ⟨d3, y1⟩ (fun hHeld => ?_)
                    clear hK K
                    refine wpAnyH_ready (rs := [18]) (by kernel_rfl) (by simp) ?_
                    refine AllReadyH.cons rfl (fun K hK => ?_) AllReadyH.nil
                    go_simp
                    refine (MN.out _ (by first | exact Kept.refl _ _ | exact (Kept.refl _ _).drew | exact (Kept.refl _ _).drewN _)).mono ?_
                    rintro e w8 ⟨rfl, hc, s8⟩
                    replace y1 := (s8.kep.cell (p := ⟨g, 0, none⟩) HG.out TG.out).trans Y1.out
                    have S8 := hid (s8.back TW.out K6.out)
                    replace d3 := (S8.out.bel.cell (p := ⟨b3, off3 + i', none⟩) HB3.out).trans CW3.out
                    clear hc s8 MN c0 c1 hl7
                    go_wp2_with fail
                    refine hK.out _ _ ⟨d3, y1⟩ (fun hHeld => ?_)
                    clear hK K
                    refine ord_take 21 95 (.bool false) rfl rfl (by kernel_rfl) (by kernel_rfl) (by kernel_rfl) (fun _ _ _ h => h) (by rfl) (fun wS hS => by (try dsimp only at hS); go_split_ands; go_simp) (by assumption) ?_
                    simp only [Act.put, List.setIfInBounds_toArray, List.set_cons_zero, List.set_cons_succ]
                    refine ord_take 22 96 (.bool false) rfl rfl (by kernel_rfl) (by kernel_rfl) (by kernel_rfl) (fun _ _ _ h => h) (by rfl) (fun wS hS => by (try dsimp only at hS); go_split_ands; go_simp) (by assumption) ?_
                    simp only [Act.put, List.setIfInBounds_toArray, List.set_cons_zero, List.set_cons_succ]
                    refine wpAnyH_done (by kernel_rfl) ?_ _
                    refine NoPanic.normal ?_
                    go_wp2
                    go_meet
                    case rel => exact ⟨rfl, S8.out⟩
                  · go_simp
                    go_wp2_with fail
                    refine hK.out _ _ ⟨d3, y1⟩ (fun hHeld => ?_)
                    clear hK K
                    refine wpAnyH_ready (rs := [12]) (by kernel_rfl) (by simp) ?_
                    refine AllReadyH.cons rfl (fun K hK => ?_) AllReadyH.nil
                    go_simp
                    go_wp2_with fail
                    refine hK.out _ _ ⟨d3, y1⟩ (fun hHeld => ?_)
                    clear hK K
                    refine wpAnyH_ready (rs := [18]) (by kernel_rfl) (by simp) ?_
                    refine AllReadyH.cons rfl (fun K hK => ?_) AllReadyH.nil
                    go_simp
                    refine (MN.out _ (by first | exact Kept.refl _ _ | exact (Kept.refl _ _).drew | exact (Kept.refl _ _).drewN _)).mono ?_
                    rintro e w8 ⟨rfl, hc, s8⟩
                    replace y1 := (s8.kep.cell (p := ⟨g, 0, none⟩) HG.out TG.out).trans Y1.out
                    have S8 := hid (s8.back TW.out K6.out)
                    replace d3 := (S8.out.bel.cell (p := ⟨b3, off3 + i', none⟩) HB3.out).trans CW3.out
                    clear hc s8 MN c0 c1 hl7
                    go_wp2_with fail
                    refine hK.out _ _ ⟨d3, y1⟩ (fun hHeld => ?_)
                    clear hK K
                    refine ord_take 21 95 (.bool false) rfl rfl (by kernel_rfl) (by kernel_rfl) (by kernel_rfl) (fun _ _ _ h => h) (by rfl) (fun wS hS => by (try dsimp only at hS); go_split_ands; go_simp) (by assumption) ?_
                    simp only [Act.put, List.setIfInBounds_toArray, List.set_cons_zero, List.set_cons_succ]
                    refine ord_take 22 96 (.bool false) rfl rfl (by kernel_rfl) (by kernel_rfl) (by kernel_rfl) (fun _ _ _ h => h) (by rfl) (fun wS hS => by (try dsimp only at hS); go_split_ands; go_simp) (by assumption) ?_
                    simp only [Act.put, List.setIfInBounds_toArray, List.set_cons_zero, List.set_cons_succ]
                    refine wpAnyH_done (by kernel_rfl) ?_ _
                    refine NoPanic.normal ?_
                    go_wp2
                    go_meet
                    case rel => exact ⟨rfl, S8.out⟩
                case rest =>
                  obtain ⟨rfl, s9⟩ := hcut
                  obtain ⟨w9, rfl⟩ : ∃ w9, w9 = wc := ⟨wc, rfl⟩
                  have S9 := hid s9
                  have LN := hid (show (fallL who low M).length = n by rw [fallL_len]; exact HN.out.symm)
                  have LW := hid (show ∀ y ∈ fallL who low M, -1000 - ((i' + 1 : Nat) : Int) ≤ y.2.1 from fun y hy => by
                    rw [fallL_some HX.out, List.mem_append] at hy
                    have hq := HLOW.out
                    rcases hy with hy | hy
                    · have := LOW.out y ((cutL_sub who).subset hy); omega
                    · simp at hy; subst hy
                      have := LOW.out x (List.mem_of_getElem? HX.out)
                      simp only; omega)
                  clear s9 FA LE S6 Y1 y1 d3 hb3s TG TW K6 HG hg B6 LOW
                  generalize fallL who low M = M2 at *
                  obtain ⟨h9, v0, v1, P9, c3, _, l0, _⟩ := S9.out.has
                  obtain ⟨va9, vc9, rfl⟩ := l0.form
                  rw [LN.out] at c3
                  have hM2 : M2.length ≤ 50 := by rw [LN.out]; omega
                  clear l0
                  go_upto_region 17 with fail
                  go_cut [109] from 97 to 109 (fun v wx => v = .bool (decide (i' < ql.length ∧ 1 < n)) ∧ wx = w9)
                  case first =>
                    by_cases z1 : i' < ql.length
                    · have z1' : decide ((i' : Int) < (ql.length : Int)) = true := by simp; omega
                      by_cases z2 : 1 < n
                      · have z2' : decide ((1 : Int) < (n : Int)) = true := by simp; omega
                        go_wp2
                        go_meet
                        case rel => exact ⟨by simp [z1, z2], rfl⟩
                      · have z2' : decide ((1 : Int) < (n : Int)) = false := by simp; omega
                        go_wp2
                        go_meet
                        case rel => exact ⟨by simp [z1, z2], rfl⟩
                    · have z1' : decide ((i' : Int) < (ql.length : Int)) = false := by simp; omega
                      go_wp2
                      go_meet
                      case rel => exact ⟨by simp [z1], rfl⟩
                  case rest =>
                    obtain ⟨rfl, e2⟩ := hcut
                    have e3 := e2.symm
                    clear e2
                    subst e3
                    go_upto_if 109 with fail
                    go_cut [12] from 109 to 130 (fun _ wx => ∃ M3, M3.length ≤ 50 ∧ (∀ y ∈ M3, -1000 - ((i' + 1 : Nat) : Int) ≤ y.2.1) ∧ Sit (Fm.of W) wx pw 160 (300000 + 190000 * i' + 92000) M3 [] nx)
                    case first =>
                      by_cases z : i' < ql.length ∧ 1 < n
                      · rw [decide_eq_true z]
                        obtain ⟨z1, z2⟩ := z
                        have hz : ql[i']? = some ql[i'] := List.getElem?_eq_getElem z1
                        have hz64 := QG.out ql[i'] (List.getElem_mem z1)
                        obtain ⟨b4, off4, rfl, hbW, hcW⟩ := QQ.out.get (Below.refl _ _) hz
                        replace hcW := hcW 0 (by decide)
                        simp only [Nat.mul_one, Nat.add_zero, oneI, List.getElem?_cons_zero] at hcW
                        generalize ql[i'] = cu at *
                        have d4 := (S9.out.bel.cell (p := ⟨b4, off4 + i', none⟩) hbW).trans hcW
                        have hb4s : b4 < w9.heap.size := Nat.lt_of_lt_of_le hbW S9.out.bel.size
                        have z1' : (i' : Int) < (ql.length : Int) := by omega
                        have hwd2 : IntKind.i64.wrap ((n : Int) - 2) = (n : Int) - 2 := IntWalk.i64_in _ (by omega)
                        have WI := hid (fun w1 => within_eq cu hz64 ((n : Int) - 2) (by omega) (by omega) w1)
                        have hjj := winI_le cu 0 ((n : Int) - 2) (by omega)
                        generalize winI cu 0 ((n : Int) - 2) = jj at *
                        have CU := hid (fun w1 (k1 : Kept (fun _ => False) w9 w1) => cut0S jj ⟨by omega, by omega⟩ (S9.out.plain k1) (by omega) (by simp) (by omega))
                        clear hz hz64 hbW hcW
                        go_wp2_with fail
                        go_region_held3 (fun w' => w'.cell? ⟨pw, 3, none⟩ = some (.slice va9 n vc9) ∧ w'.cell? ⟨b4, off4 + i', none⟩ = some (.int .i64 cu)) (first | exact ⟨c3, d4⟩ | (simp [go_sem]; exact ⟨c3, d4⟩))
                          (first
                            | (go_at_call 7; refine (WI.out _).mono ?_; rintro e w10 ⟨rfl, rfl⟩))
                        go_wp2_with fail
                        refine (CU.out _ (by first | exact Kept.refl _ _ | exact (Kept.refl _ _).drew | exact (Kept.refl _ _).drewN _)).mono ?_
                        rintro e w11 ⟨rfl, s11⟩
                        have RI := hid (rightS s11 (by have := (cutL_sub (L := M2) jj).length_le; omega) (by simp) (by omega))
                        clear s11 CU WI
                        go_wp2_with fail
                        refine RI.out.mono ?_
                        rintro e w12 ⟨rfl, s12⟩
                        have S12 := hid s12
                        clear s12 RI
                        go_wp2
                        go_meet
                        case rel => exact ⟨cutL jj M2, by have := (cutL_sub (L := M2) jj).length_le; omega, fun y hy => LW.out y ((cutL_sub jj).subset hy), S12.out.mono (by omega)⟩
                      · rw [decide_eq_false z]
                        go_wp2
                        go_meet
                        case rel => exact ⟨M2, hM2, LW.out, S9.out.mono (by omega)⟩
                    case rest =>
                      obtain ⟨M3, hM3, hlw, s13⟩ := hcut
                      obtain ⟨w13, rfl⟩ : ∃ w13, w13 = wc := ⟨wc, rfl⟩
                      have S13 := hid s13
                      have LW3 := hid hlw
                      clear s13 hlw S9 c3 h9 LW LN hM2
                      by_cases par : i' % 2 = 1
                      · have hp : (i' : Int).tmod 2 = 1 := by rw [Int.tmod_eq_emod_of_nonneg (by omega)]; omega
                        have PO := hid (pop0S S13.out (by omega) (by omega))
                        go_wp2_with fail
                        refine PO.out.mono ?_
                        rintro e w14 ⟨rfl, s14⟩
                        have RI := hid (rightS s14 (by have := (popL_sub (L := M3)).length_le; omega) (by simp) (by omega))
                        clear s14 PO
                        go_wp2_with fail
                        refine RI.out.mono ?_
                        rintro e w15 ⟨rfl, s15⟩
                        have S15 := hid s15
                        clear s15 RI
                        go_wp2
                        go_roundw
                        case rel => exact ⟨i' + 1, popL M3, congrArg (Value.int .i64) (by have := HLOW.out; omega), by go_num, by omega, by have := (popL_sub (L := M3)).length_le; omega, fun y hy => LW3.out y (popL_sub.subset hy), S15.out.mono (by omega)⟩
                        case measure => simp [intOf]; omega
                      · have hp : (i' : Int).tmod 2 = 0 := by rw [Int.tmod_eq_emod_of_nonneg (by omega)]; omega
                        go_wp2
                        go_roundw
                        case rel => exact ⟨i' + 1, M3, congrArg (Value.int .i64) (by have := HLOW.out; omega), by go_num, by omega, hM3, LW3.out, S13.out.mono (by omega)⟩
                        case measure => simp [intOf]; omega
            · rw [decide_eq_false q]
              have RI := hid (rightS S.out (by omega) (by simp) (by omega))
              clear S c3 h5
              go_wp2_with fail
              refine RI.out.mono ?_
              rintro e w7 ⟨rfl, s7⟩
              have B7 := hid s7.bel
              clear s7 RI
              go_wp2_with fail
              refine (known_any _).mono ?_
              rintro e w9 ⟨rfl, b9⟩
              have B9 := hid (B7.out.trans (b9.mono B7.out.size))
              go_wp2
              go_ret
              exact ⟨rfl, B9.out⟩
end Go.Proofs.Ythfdooigljkfiab
