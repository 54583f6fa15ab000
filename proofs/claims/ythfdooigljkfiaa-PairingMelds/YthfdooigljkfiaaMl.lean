/- The walk of PairingMelds. -/
import Derived.Test.YthfdooigljkfiaaLift
import Derived.Test.YthfdooigljkfiaaKn
import Derived.Test.YthfdooigljkfiaaPw
import Derived.Test.YthfdooigljkfiaaMe
import Derived.Test.YthfdooigljkfiaaGl
namespace Go.Proofs.Ythfdooigljkfiaa
open Go.ChangeShapes Go.WideShapes Go.ChangeAt Go.RowKit
open Tr

set_option maxHeartbeats 4000000 in
set_option maxRecDepth 100000 in
theorem melds_walk (a : Option Addr) (cap : Nat) (l : List Rw) (_hl : l.length ≤ maxLen) (pp : Option Addr) (pc : Nat) (pl : List Bool) (_hpl : pl.length ≤ maxLen) (W : World) (hC : Came W a 1 rw1 l) (hG : ∀ q ∈ l, rwG W q) (hP : Came W pp 1 oneB pl) :
    Calls Try.prog 4 #[.slice a l.length cap, .slice pp pl.length pc] W fun e w' => e = .returned (.bool true) ∧ Below W.heap.size W w' := by
  have C := hid hC
  have G := hid hG
  have PP := hid hP
  clear hC hG hP
  go_enter Try.func4, Try.ntmps4
  go_wp2_with fail
  refine (freshW 300 W).mono ?_
  rintro e w1 ⟨pw, rfl, s1⟩
  rw [show most0 300 = 300 from rfl] at s1
  have S1 := hid s1
  clear s1
  go_wp2_with fail
  go_loopw [6, 7, 8] (fun iv _ _ wr => ∃ (i : Nat) (L : List (Nat × Int × Int)) (nx : Int), iv = .int .i64 i ∧ i ≤ 12 ∧ L.length ≤ 8 * i ∧ 0 ≤ nx ∧ nx ≤ 8 * i ∧ Sit (Fm.of W) wr pw 300 (190000 * i) L [] nx) (fun i _ _ _ => 12 - (intOf i).toNat)
  case atStart => exact ⟨0, [], 0, rfl, by omega, by simp, by omega, by omega, S1.out⟩
  case round =>
    clear S1
    obtain ⟨i, L, nx, rfl, hi, hL, hn0, hn1, hs⟩ := hrel
    have S := hid hs
    clear hs
    go_upto_region 5 with fail
    go_cut [19] from 12 to 19 (fun v wx => v = .bool (decide (i < l.length ∧ i < 12)) ∧ wx = wr)
    case first =>
      by_cases q1 : i < l.length
      · have q1' : decide ((i : Int) < (l.length : Int)) = true := by simp; omega
        by_cases q2 : i < 12
        · have q2' : decide ((i : Int) < 12) = true := by simp; omega
          go_wp2
          go_meet
          case rel => exact ⟨by simp [q1, q2], rfl⟩
        · have q2' : decide ((i : Int) < 12) = false := by simp; omega
          go_wp2
          go_meet
          case rel => exact ⟨by simp [q1, q2], rfl⟩
      · have q1' : decide ((i : Int) < (l.length : Int)) = false := by simp; omega
        go_wp2
        go_meet
        case rel => exact ⟨by simp [q1], rfl⟩
    case rest =>
      obtain ⟨rfl, e2⟩ := hcut
      have e3 := e2.symm
      clear e2
      subst e3
      by_cases q : i < l.length ∧ i < 12
      · rw [decide_eq_true q]
        obtain ⟨q1, q2⟩ := q
        obtain ⟨w5, rfl⟩ : ∃ w5, w5 = wr := ⟨wr, rfl⟩
        have hx : l[i]? = some l[i] := List.getElem?_eq_getElem q1
        obtain ⟨gl, gc, gi⟩ := G.out l[i] (List.getElem_mem q1)
        have HX := hid hx
        generalize l[i] = r at *
        obtain ⟨ra, rcap, rl⟩ := r
        have GC := hid gc
        have hrl : rl.length ≤ maxLen := gl
        clear gl gc gi hx
        have q1' : (i : Int) < (l.length : Int) := by omega
        go_wp2_with fail
        go_loopw [7] (fun kv wr => ∃ (k : Nat) (M : List (Nat × Int × Int)) (ny : Int), kv = .int .i64 k ∧ k ≤ 8 ∧ M.length ≤ k ∧ 0 ≤ ny ∧ ny ≤ 8 * i + k ∧ Sit (Fm.of W) wr pw 300 (190000 * i + 1500 * k) L M ny) (fun k _ => 8 - (intOf k).toNat)
        case atStart => exact ⟨0, [], nx, rfl, by omega, by simp, hn0, by omega, S.out⟩
        case round =>
          clear S hn0 hn1
          obtain ⟨k, M, ny, rfl, hk, hM, hy0, hy1, hs⟩ := hrel
          obtain ⟨bb, off, rfl, hb, hc⟩ := C.out.get hs.bel HX.out
          have c0 := hc 0 (by decide)
          simp only [Nat.mul_one, Nat.add_zero, rw1, List.getElem?_cons_zero] at c0
          have hbs : bb < wr.heap.size := Nat.lt_of_lt_of_le hb hs.bel.size
          have S := hid hs
          clear hs hc hb
          go_upto_region 8 with fail
          go_cut [32] from 22 to 32 (fun v wx => v = .bool (decide (k < rl.length ∧ k < 8)) ∧ wx = wr)
          case first =>
            by_cases q1 : k < rl.length
            · have q1' : decide ((k : Int) < (rl.length : Int)) = true := by simp; omega
              by_cases q2 : k < 8
              · have q2' : decide ((k : Int) < 8) = true := by simp; omega
                go_wp2
                go_meet
                case rel => exact ⟨by simp [q1, q2], rfl⟩
              · have q2' : decide ((k : Int) < 8) = false := by simp; omega
                go_wp2
                go_meet
                case rel => exact ⟨by simp [q1, q2], rfl⟩
            · have q1' : decide ((k : Int) < (rl.length : Int)) = false := by simp; omega
              go_wp2
              go_meet
              case rel => exact ⟨by simp [q1], rfl⟩
          case rest =>
            obtain ⟨rfl, e2⟩ := hcut
            have e3 := e2.symm
            clear e2
            subst e3
            by_cases q : k < rl.length ∧ k < 8
            · rw [decide_eq_true q]
              obtain ⟨p1, p2⟩ := q
              have hy : rl[k]? = some rl[k] := List.getElem?_eq_getElem p1
              obtain ⟨b2, off2, e2, hb2, hc2⟩ := GC.out.get S.out.bel hy
              obtain rfl : ra = some ⟨b2, off2, none⟩ := e2
              have d0 := hc2 0 (by decide)
              simp only [Nat.mul_one, Nat.add_zero, oneI, List.getElem?_cons_zero] at d0
              have hb2s : b2 < wr.heap.size := Nat.lt_of_lt_of_le hb2 S.out.bel.size
              generalize rl[k] = key at *
              have p1' : (k : Int) < (rl.length : Int) := by omega
              have PU := hid (push1 S.out (by omega) (by omega) ⟨hy0, by omega⟩ (by omega) (key.tmod 30))
              clear hy hc2 hb2
              go_wp2_with fail
              refine PU.out.mono ?_
              rintro e w6 ⟨rfl, j, s6⟩
              have S6 := hid s6
              clear s6 PU
              go_wp2
              go_roundw
              case rel => exact ⟨k + 1, M ++ [(j, key.tmod 30, ny)], ny + 1, by go_num, by omega, by simp; omega, by omega, by omega, S6.out.mono (by omega)⟩
              case measure => simp [intOf]; omega
            · rw [decide_eq_false q]
              clear c0 hbs q
              have S3 := hid (S.out.mono (show 190000 * i + 1500 * k ≤ 190000 * i + 12000 by omega))
              clear S
              go_upto_region 12 with fail
              go_cut [65] from 46 to 65 (fun v wx => v = .bool false ∧ ∃ L', L'.length ≤ L.length ∧ Sit (Fm.of W) wx pw 300 (190000 * i + 99000) L' M ny)
              case first =>
                by_cases z1 : i < pl.length
                · have z1' : (i : Int) < (pl.length : Int) := by omega
                  have hz : pl[i]? = some pl[i] := List.getElem?_eq_getElem z1
                  obtain ⟨b3, off3, rfl, hb3, hc3⟩ := PP.out.get S3.out.bel hz
                  have d3 := hc3 0 (by decide)
                  simp only [Nat.mul_one, Nat.add_zero, oneB, List.getElem?_cons_zero] at d3
                  have hb3s : b3 < wr.heap.size := Nat.lt_of_lt_of_le hb3 S3.out.bel.size
                  generalize pl[i] = bp at *
                  clear hz hc3 hb3
                  cases bp with
                  | true =>
                    have PO := hid (pop0S S3.out (by omega) (by omega))
                    go_wp2_with fail
                    refine PO.out.mono ?_
                    rintro e w6 ⟨rfl, s6⟩
                    have RI := hid (rightS s6 (by have := popL_le L; omega) (by omega) (by omega))
                    clear s6 PO S3 d3
                    go_wp2_with fail
                    refine RI.out.mono ?_
                    rintro e w7 ⟨rfl, s7⟩
                    have S7 := hid s7
                    clear s7 RI
                    go_wp2
                    go_meet
                    case rel => exact ⟨rfl, popL L, popL_le L, S7.out.mono (by omega)⟩
                  | false =>
                    have RI := hid (rightS S3.out (by omega) (by omega) (by omega))
                    clear S3
                    go_wp2_with fail
                    refine RI.out.mono ?_
                    rintro e w7 ⟨rfl, s7⟩
                    have S7 := hid s7
                    clear s7 RI d3
                    go_wp2
                    go_meet
                    case rel => exact ⟨rfl, L, Nat.le_refl _, S7.out.mono (by omega)⟩
                · have z1' : decide ((i : Int) < (pl.length : Int)) = false := by simp; omega
                  have RI := hid (rightS S3.out (by omega) (by omega) (by omega))
                  clear S3
                  go_wp2_with fail
                  refine RI.out.mono ?_
                  rintro e w7 ⟨rfl, s7⟩
                  have S7 := hid s7
                  clear s7 RI
                  go_wp2
                  go_meet
                  case rel => exact ⟨rfl, L, Nat.le_refl _, S7.out.mono (by omega)⟩
              case rest =>
                clear S3
                obtain ⟨rfl, L', hL', s4⟩ := hcut
                obtain ⟨w8, rfl⟩ : ∃ w8, w8 = wc := ⟨wc, rfl⟩
                have S4 := hid s4
                obtain ⟨h4, v0, v1, P, c3, c4, l0, l1⟩ := s4.has
                obtain ⟨va0, vc0, rfl⟩ := l0.form
                obtain ⟨va1, vc1, rfl⟩ := l1.form
                obtain ⟨x0, hx0⟩ : ∃ x0, x0 = L'.length := ⟨_, rfl⟩
                obtain ⟨x1, hx1⟩ : ∃ x1, x1 = M.length := ⟨_, rfl⟩
                rw [← hx0] at c3
                rw [← hx1] at c4
                obtain ⟨nn, hnn⟩ : ∃ nn : Nat, (x0 : Int) + (x1 : Int) = (nn : Int) := ⟨x0 + x1, by omega⟩
                have HNN := hid (show (L' ++ M).length = nn by rw [List.length_append]; omega)
                have hwn : IntKind.i64.wrap (nn : Int) = (nn : Int) := IntWalk.i64_in _ (by omega)
                have hlen := hid (show L'.length ≤ 8 * i ∧ M.length ≤ 8 by omega)
                have ME := hid (meld0 (w := w8.drew) (S4.out.drewN 1) (by omega) (by omega))
                clear s4 l0 l1 hx0 hx1 hL' hM hL
                go_wp2_with fail
                go_region
                go_wp2_with fail
                refine ME.out.mono ?_
                rintro e wA ⟨rfl, sA⟩
                have SA := hid sA
                clear ME S4 c3 c4 h4
                have c2 := sA.none1
                obtain ⟨hA, v0, v1, P, c3, _, l0, _⟩ := sA.has
                obtain ⟨va2, vc2, rfl⟩ := l0.form
                rw [HNN.out] at c3
                clear sA l0
                have RI := hid (rightS SA.out (by have := hlen.out; simp; omega) (by simp) (by omega))
                go_wp2_with fail
                refine RI.out.mono ?_
                rintro e wB ⟨rfl, sB⟩
                have SB := hid sB
                clear sB RI SA c2 c3 hA
                go_wp2
                go_roundw
                case rel => exact ⟨i + 1, L' ++ M, ny, by go_num, by omega, by have := hlen.out; simp; omega, hy0, by omega, SB.out.mono (by omega)⟩
                case measure => simp [intOf]; omega
      · rw [decide_eq_false q]
        go_wp2_with fail
        refine (known_any _).mono ?_
        rintro e w9 ⟨rfl, b9⟩
        have B9 := hid (S.out.bel.trans (b9.mono S.out.bel.size))
        go_wp2
        go_ret
        exact ⟨rfl, B9.out⟩
end Go.Proofs.Ythfdooigljkfiaa
