/- The walk of ChainOut. -/
import Derived.Test.YticpldlckdckdaaMn
namespace Go.Proofs.Yticpldlckdckdaa
open Go.ChangeShapes Go.WideShapes Go.ChangeAt Go.RowKit

set_option maxRecDepth 100000 in
set_option maxHeartbeats 4000000 in
theorem out_walk (n : Int) (hn : I64 n) (a : Option Addr) (cap : Nat) (l : List Int) (hlm : l.length ≤ maxLen) (w : World) (hC : Came w a 1 oneI l) (hI : ∀ x ∈ l, I64 x) :
    Calls Try.prog 5 #[.int .i64 n, .slice a l.length cap] w fun e w' => e = .returned (.bool true) ∧ Below w.heap.size w w' := by
  have HC := hid hC
  have HI := hid hI
  obtain ⟨ti, hti, hz0, hz1, hz2⟩ := info_parts info3i
  have HT := hid hti
  have Z0 := hid hz0
  have Z1 := hid hz1
  have Z2 := hid hz2
  clear hC hI hti hz0 hz1 hz2
  unfold maxLen at hlm
  go_enter Try.func5, Try.ntmps5
  go_wp2_with fail
  refine (within_any n hn 1 20 (by decide) (by decide) (by decide) w).mono ?_
  rintro e w1 ⟨k, rfl, hk1, hk2, rfl⟩
  obtain ⟨k, rfl⟩ : ∃ k' : Nat, k = (k' : Int) := ⟨k.toNat, by omega⟩
  have hk20 : k ≤ 20 := by omega
  go_wp2_with fail
  refine (newC k (by omega) w1).mono ?_
  rintro e w2 ⟨F, pa, pm, rfl, h2⟩
  have H2 := hid h2
  clear h2 hn
  go_wp2
  go_loopw [7, 8, 9, 10] (fun rv iv _ _ wr => ∃ (i t : Nat) (G : Nat → Prop) (nx pv : Nat → Nat), iv = .int .i64 i ∧ i ≤ k ∧ t ≤ 19 * i ∧ Hr w1 wr G pa pm k i nx pv t ∧ Sg nx 0 i ∧ Mine w1 wr G 3 rv (List.range' 0 i).length (row nat1 (List.range' 0 i))) (fun _ i _ _ _ => k - (intOf i).toNat)
  case atStart => exact ⟨0, 0, F, id, id, rfl, by omega, by omega, H2.out, fun h => by omega, Mine.nil _ _ _ _⟩
  case round =>
    clear H2
    obtain ⟨i, t, G, nx, pv, rfl, hi, ht, hh, s1, hm⟩ := hrel
    have HH := hid hh
    have S1 := hid s1
    have M := hid hm
    obtain ⟨ra, rc, rfl⟩ := own_form hm.own
    clear hh s1 hm
    rw [List.length_range'] at M ⊢
    by_cases hlt : i < k
    · have hlt' : (i : Int) < (k : Int) := by omega
      obtain ⟨wq, hwq⟩ : ∃ wq, wq = wr := ⟨wr, rfl⟩
      subst hwq
      go_wp2_with fail
      refine (takeC HH.out (by omega) hlt).mono ?_
      rintro e w4 ⟨rfl, h4, k4⟩
      have H4 := hid h4
      have M4 := hid (M.out.call k4)
      generalize Grow G wq w4 = G4 at H4 M4
      clear h4 k4 M
      go_wp2_with fail
      refine (oneV HH.out.2 H4.out (by omega)).mono ?_
      rintro e w5 ⟨rfl, h5, k5⟩
      have H5 := hid h5
      have M5 := hid (M4.out.stay k5)
      have I := hid HH.out.2
      clear h5 k5 H4 HH M4
      by_cases hi0 : i = 0
      · have NS : Hid (Sg (nxt nx i) 0 (i + 1)) := by rw [hi0]; exact Sg.here
        have hi0' : ¬ (0 : Int) < (i : Int) := by omega
        clear hi0
        have NW : Hid (∀ j u, [Value.int .i64 (i : Int)][j]? = some u → (w5.alloc (.cells #[.int .i64 (i : Int)] 3)).cell? ((⟨w5.heap.size, 0, none⟩ : Addr).add j) = some u) := World.news_of_block (heap_alloc_new w5 (.cells #[.int .i64 (i : Int)] 3))
        have hin := M5.out.own.1
        go_wp2_with (at_builtin; refine wpList_append_lies _ rfl (.tmp 41) (.tmp 43) 23 rfl 0 3 ti _ 1 8 Try.underlying23 HT.out Z0.out Z1.out Z2.out rfl (by decide) (.slice ra i rc) i (row nat1 (List.range' 0 i)) rfl (World.ownsRow.alloc M5.out.own _) ⟨w5.heap.size, 0, none⟩ 1 1 [.int .i64 (i : Int)] rfl rfl NW.out (by simp [Value.oneCell']) (by decide) (by simp [maxLen]; omega) (by omega) (Nat.zero_le _) (w5.heap.size + 1) (by simp) ?_; intro g2 cap2 w7 ho hgr hat hlt; have GR := hid hgr; have HO7 := hid ho; have HL := hid hlt; have HA := hid hat; clear ho hgr hat hlt)
        go_roundw
        case rel => exact ⟨i + 1, t + 1 + 6, G4, _, _, by go_num, by omega, by omega, H5.out.pushed M5.out GR.out, NS.out, M5.out.range HO7.out HA.out H5.out.1.lt H5.out.1.bel.size⟩
        case measure => simp [intOf]; omega
      · have hi0' : (0 : Int) < (i : Int) := by omega
        obtain ⟨j, hj⟩ : ∃ j, j = i - 1 := ⟨_, rfl⟩
        have hij : (i : Int) - 1 = (j : Int) := by omega
        have HJ := hid hj
        have hji : j < i := by omega
        clear hj
        have NS : Hid (Sg (swN (nxt nx i) (nxt pv i) j i) 0 (i + 1)) := by
          rw [HJ.out]
          exact (S1.out.one (k := i) (by omega)).put I.out.more (by omega) (by simp [nxt])
        go_wp2_with fail
        refine (putC H5.out (by omega) (c := j) (d := i) (by omega) (by omega) (by omega) (by simp [nxt])).mono ?_
        rintro e w6 ⟨rfl, h6, k6⟩
        have H6 := hid h6
        have M6 := hid (M5.out.stay k6)
        clear h6 k6 H5 M5
        have NW : Hid (∀ j u, [Value.int .i64 (i : Int)][j]? = some u → (w6.alloc (.cells #[.int .i64 (i : Int)] 3)).cell? ((⟨w6.heap.size, 0, none⟩ : Addr).add j) = some u) := World.news_of_block (heap_alloc_new w6 (.cells #[.int .i64 (i : Int)] 3))
        have hin := M6.out.own.1
        go_wp2_with (at_builtin; refine wpList_append_lies _ rfl (.tmp 41) (.tmp 43) 23 rfl 0 3 ti _ 1 8 Try.underlying23 HT.out Z0.out Z1.out Z2.out rfl (by decide) (.slice ra i rc) i (row nat1 (List.range' 0 i)) rfl (World.ownsRow.alloc M6.out.own _) ⟨w6.heap.size, 0, none⟩ 1 1 [.int .i64 (i : Int)] rfl rfl NW.out (by simp [Value.oneCell']) (by decide) (by simp [maxLen]; omega) (by omega) (Nat.zero_le _) (w6.heap.size + 1) (by simp) ?_; intro g2 cap2 w7 ho hgr hat hlt; have GR := hid hgr; have HO7 := hid ho; have HL := hid hlt; have HA := hid hat; clear ho hgr hat hlt)
        go_roundw
        case rel => exact ⟨i + 1, t + 1 + 6 + 12, G4, _, _, by go_num, by omega, by omega, H6.out.pushed M6.out GR.out, NS.out, M6.out.range HO7.out HA.out H6.out.1.lt H6.out.1.bel.size⟩
        case measure => simp [intOf]; omega
    · obtain rfl : i = k := by omega
      clear hlt hi
      have R0 := S1.out (by omega)
      rw [Nat.sub_zero] at R0
      have R := hid R0
      clear R0 S1
      have M' := hid (show Mine w1 wr G 3 (.slice ra i rc) (List.range' 0 i).length (row nat1 (List.range' 0 i)) by rw [List.length_range']; exact M.out)
      clear M
      go_wp2
      go_loopw [7, 11, 12] (fun rv iv _ ws => ∃ (m t : Nat) (nx pv : Nat → Nat) (rl : List Nat), iv = .int .i64 m ∧ 0 < rl.length ∧ m + rl.length = i ∧ m ≤ l.length ∧ t ≤ 400 + 60 * m ∧ Hr w1 ws G pa pm i i nx pv t ∧ Rnd nx rl ∧ (∀ u ∈ rl, u < i) ∧ Mine w1 ws G 3 rv rl.length (row nat1 rl)) (fun _ m _ _ => l.length - (intOf m).toNat)
      case atStart => exact ⟨0, t, nx, pv, List.range' 0 i, rfl, by simp; omega, by simp, Nat.zero_le _, by omega, HH.out, R.out, fun u hu => by rw [List.mem_range'] at hu; obtain ⟨j, h1, h2⟩ := hu; omega, M'.out⟩
      case round =>
        clear HH R M' ht
        clear t nx pv
        obtain ⟨m, t, nx, pv, rl, rfl, hr0, hmi, hml, ht, hh, hR, hU, hM⟩ := hrel
        have HH := hid hh
        have R := hid hR
        have U := hid hU
        have M := hid hM
        obtain ⟨g, rc, rfl, _, hg⟩ := hM.own.form hr0
        obtain ⟨x, hx⟩ : ∃ x, x = rl.length := ⟨_, rfl⟩
        have HX := hid hx
        rw [← hx] at hr0 hmi M ⊢
        clear hh hR hU hM hx
        by_cases hlt : m < l.length
        · by_cases hx1 : 1 < x
          · have hov : l[m]? = some l[m] := List.getElem?_eq_getElem hlt
            have OVI := hid (HI.out l[m] (List.getElem_mem hlt))
            obtain ⟨b0, off, ee, hb0, hc0⟩ := HC.out.get HH.out.1.bel hov
            subst ee
            generalize l[m] = ov at hov hc0 OVI
            have d0 : wr.cell? ⟨b0, off + m, none⟩ = some (.int .i64 ov) := by simpa [oneI] using hc0 0 (by decide)
            have hlt' : (m : Int) < (l.length : Int) := by omega
            have hx1' : (1 : Int) < (x : Int) := by omega
            have hb0' : b0 < wr.heap.size := Nat.lt_of_lt_of_le hb0 HH.out.1.bel.size
            obtain ⟨wq, hwq⟩ : ∃ wq, wq = wr := ⟨wr, rfl⟩
            subst hwq
            clear hov hc0
            go_wp2_with fail
            refine (within_any ov OVI.out 1 ((x : Int) - 1) (by decide) (by omega) (by omega) wq).mono ?_
            rintro e w3 ⟨j, rfl, hj1, hj2, rfl⟩
            obtain ⟨j, rfl⟩ : ∃ j' : Nat, j = (j' : Int) := ⟨j.toNat, by omega⟩
            have hjx : j < x := by omega
            have hrj : rl[j]? = some (rl[j]'(by rw [← HX.out]; exact hjx)) := List.getElem?_eq_getElem _
            generalize (rl[j]'(by rw [← HX.out]; exact hjx)) = c at hrj
            obtain ⟨l1, l2, e1, e2⟩ := split_at hrj
            have E1 := hid e1
            have E2 := hid e2
            have hck : c < i := U.out c (by rw [e1]; simp)
            have hcj : w3.cell? ⟨g, j, none⟩ = some (.int .i64 (c : Int)) := mine_at (by have := M.out; rw [HX.out] at this; exact this) hrj
            have hjx' : (j : Int) < (x : Int) := by omega
            have hgb : ¬ G g := (M.out.out g rfl).1
            clear e1 e2 hrj d0
            go_wp2_with fail
            refine (outC HH.out (by omega) (c := c) hck).mono ?_
            rintro e w4 ⟨rfl, h4, k4⟩
            have H4 := hid h4
            have M4 := hid (M.out.stay k4)
            have hcj4 := (k4.cell (p := ⟨g, j, none⟩) hg hgb).trans hcj
            have hg4 : g < w4.heap.size := Nat.lt_of_lt_of_le hg k4.size
            have I := hid HH.out.2
            generalize (if nx c = c then -1 else (nx c : Int)) = vv
            clear h4 k4 HH M hcj
            go_wp2_with fail
            have NR : Hid (Rnd (swN nx pv c c) (l1 ++ l2) ∧ swN nx pv c c c = c) := by
              have r0 := R.out
              rw [E1.out] at r0
              have r1 := r0.turn
              obtain ⟨a1, t1, et⟩ : ∃ a1 t1, l1 = a1 :: t1 := by
                cases l1 with
                | nil => have := E2.out; simp at this; omega
                | cons a1 t1 => exact ⟨a1, t1, rfl⟩
              have hu : ∀ u ∈ rl, u < i := U.out
              obtain ⟨y, t2, ey⟩ : ∃ y t2, l2 ++ l1 = y :: t2 := by
                rw [et]
                cases l2 with
                | nil => exact ⟨_, _, rfl⟩
                | cons y t => exact ⟨_, _, rfl⟩
              have r2 : Rnd nx (c :: y :: t2) := by rw [← ey]; simpa using r1
              have hq := Rnd.out I.out (fun u hu' => hu u (by
                rw [E1.out]
                rw [← ey] at hu'
                simp at hu' ⊢
                rcases hu' with q | q | q <;> simp [q])) r2
              refine ⟨?_, hq.2.alone⟩
              have := hq.1
              rw [← ey] at this
              exact this.turn
            refine (aloneC H4.out (by omega) (c := c) hck).mono ?_
            rw [NR.out.2]
            rintro e w5 ⟨rfl, h5, k5⟩
            have H5 := hid h5
            have M5 := hid (M4.out.stay k5)
            have hg5 : g < w5.heap.size := Nat.lt_of_lt_of_le hg4 k5.size
            clear h5 k5 H4 M4 hcj4
            obtain ⟨sa, sb, hn, hnc, hcm, _⟩ := Src.cut (P := fun _ => True) (c := c) (l1 := l1) (l2 := l2) (Lies.of_own (by have := M5.out.own; rw [← E1.out, ← HX.out]; exact this) (fun _ _ _ => trivial)) E2.out
            have SA := hid sa
            have SB := hid sb
            have HN := hid hn
            unfold maxLen at hcm
            obtain ⟨j1, hj1'⟩ : ∃ j1, j1 = j + 1 := ⟨_, rfl⟩
            have hjj : (j : Int) + 1 = (j1 : Int) := by omega
            have HJ1 := hid hj1'
            have hwj : IntKind.i64.wrap (j1 : Int) = (j1 : Int) := IntWalk.i64_in _ (by omega)
            rw [← hj1', Nat.zero_add] at SB
            have b1 : (j1 : Int) ≤ (x : Int) := by omega
            have b2 : (x : Int) ≤ (rc : Int) := by omega
            have b3 : (j1 : Int) ≤ (rc : Int) := by omega
            have b4 : (j : Int) ≤ (rc : Int) := by omega
            have b5 : (j : Int) ≤ (x : Int) := by omega
            have hj0 : (0 : Int) ≤ (j : Int) := by omega
            have hj10 : (0 : Int) ≤ (j1 : Int) := by omega
            clear sa sb hn hj1'
            by_cases hrc : rc = j1
            · subst hrc
              have hl2 : l2 = [] := List.eq_nil_of_length_eq_zero (by have := HN.out; have := HJ1.out; omega)
              replace SB : Hid (Src w5.heap.size w5 (.slice (some ⟨g, 0, none⟩) 0 0) l2) := Or.inr ⟨g, 0, 0, by rw [hl2]; rfl, hg5, fun i x hx => by rw [hl2] at hx; simp at hx⟩
              clear hl2
              go_wp2_with fail
              go_region_held3 (fun _ => True) (trivial)
                (first
                  | (refine step_append_src rfl (.tmp 77) (.tmp 80) rfl w5.heap.size w5.heap.size _ _ 0 [] l1 rfl rfl (by exact World.ownsRow_lit (base := w5.heap.size) (e := 3) (size := 1) _ #[] 0 (Nat.le_refl _) (by simp [maxLen]) rfl) (by exact SA.out.kept (((Kept.refl (fun _ => False) w5).drewN _).alloc _).plain0) (by have := E2.out; simp; omega) (by simp) ?_; intro v1 w6 o1 g1; have K6 := hid ((((Kept.refl (fun _ => False) w5).drewN _).alloc _).grown g1 (fun k hk => Or.inr (by cases hk; simp))); have O6 := hid o1; clear o1 g1)
                  | (refine step_append_src rfl (.tmp 81) (.tmp 85) rfl w5.heap.size w5.heap.size v1 _ (0 + l1.length) ([] ++ row nat1 l1) l2 rfl rfl (by exact O6.out) (by exact SB.out.kept K6.out.plain0) (by have := E2.out; have := HN.out; simp; omega) (by exact K6.out.size) ?_; intro v2 w7 o2 g2; have K7 := hid (K6.out.grown g2 (fun k hk => Or.inr (O6.out.lt k hk).1)); have O7 := hid o2; clear o2 g2))
              have H7 := hid (H5.out.plain K7.out)
              have hxx : (l1 ++ l2).length = x - 1 := by have := HN.out; have := E2.out; simp; omega
              have OW := hid (show w7.ownsRow w5.heap.size 3 1 v2 (x - 1) (row nat1 (l1 ++ l2)) by
                have := O7.out
                rw [row_append]
                rw [show 0 + l1.length + l2.length = x - 1 by rw [← hxx]; simp] at this
                simpa using this)
              have M7 := hid (show Mine w1 w7 G 3 v2 (x - 1) (row nat1 (l1 ++ l2)) from Mine.of_own OW.out H5.out.1.bel.size H5.out.1.lt)
              have FB := hid H5.out.1.lt
              obtain ⟨x', hx'⟩ : ∃ x', x' = x - 1 := ⟨_, rfl⟩
              rw [← hx'] at hxx OW M7
              obtain ⟨g2, c2, rfl, _, hg2⟩ := OW.out.form (by omega)
              obtain ⟨a1, t1, et⟩ : ∃ a1 t1, l1 = a1 :: t1 := by
                cases l1 with
                | nil => have := E2.out; simp at this; omega
                | cons a1 t1 => exact ⟨a1, t1, rfl⟩
              subst et
              have hc0 : w7.cell? ⟨g2, 0, none⟩ = some (.int .i64 (a1 : Int)) := mine_at (l := a1 :: t1 ++ l2) (by rw [hxx]; exact M7.out) rfl
              have hx'0 : (0 : Int) < (x' : Int) := by omega
              have LX := hid hxx
              have HX' := hid hx'
              have hx'1 : x' + 1 = x := by omega
              have hx'2 : x' ≤ 20 := by omega
              have NU : Hid (∀ u ∈ a1 :: t1 ++ l2, u < i) := fun u hu => U.out u (by rw [E1.out]; simp at hu ⊢; rcases hu with q | q | q <;> simp [q])
              clear hxx hx' O7 O6 K6 K7 SA SB M5 H5 OW
              go_wp2_with fail
              refine (allC H7.out (by omega) (c := a1) (tl := t1 ++ l2) NU.out NR.out.1 (by have := LX.out; simp at this ⊢; omega)).mono ?_
              rintro e w8 ⟨v8, rfl, o8, h8, k8⟩
              have H8 := hid h8
              have O8 := hid o8
              have M8 := hid (M7.out.stay k8)
              clear h8 o8 k8 H7 M7 hc0
              go_wp2_with fail
              refine (sameN v8 _ (a1 :: t1 ++ l2) (a1 :: t1 ++ l2) rfl (by rw [LX.out]; omega) w8 (by exact own_base O8.out (Nat.zero_le _)) (by rw [LX.out]; exact M8.out.own)).mono ?_
              rintro e w9 ⟨rfl, nd, rfl⟩
              have H9 := hid (H8.out.drewN nd)
              have M9 := hid (M8.out.plain ((Kept.refl _ _).drewN nd))
              clear H8 M8 O8
              go_wp2
              go_roundw
              case rel => exact ⟨m + 1, t + 8 + 1 + 2 * ((t1 ++ l2).length + 1), _, _, a1 :: t1 ++ l2, by go_num, by rw [LX.out]; omega, by rw [LX.out]; omega, by omega, by have := LX.out; simp at this ⊢; omega, H9.out, NR.out.1, NU.out, by rw [LX.out]; exact M9.out⟩
              case measure => simp [intOf]; omega
            · have hrc2 : ¬ rc - j1 = 0 := by omega
              go_wp2_with fail
              go_region_held3 (fun _ => True) (trivial)
                (first
                  | (refine step_append_src rfl (.tmp 77) (.tmp 80) rfl w5.heap.size w5.heap.size _ _ 0 [] l1 rfl rfl (by exact World.ownsRow_lit (base := w5.heap.size) (e := 3) (size := 1) _ #[] 0 (Nat.le_refl _) (by simp [maxLen]) rfl) (by exact SA.out.kept (((Kept.refl (fun _ => False) w5).drewN _).alloc _).plain0) (by have := E2.out; simp; omega) (by simp) ?_; intro v1 w6 o1 g1; have K6 := hid ((((Kept.refl (fun _ => False) w5).drewN _).alloc _).grown g1 (fun k hk => Or.inr (by cases hk; simp))); have O6 := hid o1; clear o1 g1)
                  | (refine step_append_src rfl (.tmp 81) (.tmp 85) rfl w5.heap.size w5.heap.size v1 _ (0 + l1.length) ([] ++ row nat1 l1) l2 rfl rfl (by exact O6.out) (by exact SB.out.kept K6.out.plain0) (by have := E2.out; have := HN.out; simp; omega) (by exact K6.out.size) ?_; intro v2 w7 o2 g2; have K7 := hid (K6.out.grown g2 (fun k hk => Or.inr (O6.out.lt k hk).1)); have O7 := hid o2; clear o2 g2))
              have H7 := hid (H5.out.plain K7.out)
              have hxx : (l1 ++ l2).length = x - 1 := by have := HN.out; have := E2.out; simp; omega
              have OW := hid (show w7.ownsRow w5.heap.size 3 1 v2 (x - 1) (row nat1 (l1 ++ l2)) by
                have := O7.out
                rw [row_append]
                rw [show 0 + l1.length + l2.length = x - 1 by rw [← hxx]; simp] at this
                simpa using this)
              have M7 := hid (show Mine w1 w7 G 3 v2 (x - 1) (row nat1 (l1 ++ l2)) from Mine.of_own OW.out H5.out.1.bel.size H5.out.1.lt)
              have FB := hid H5.out.1.lt
              obtain ⟨x', hx'⟩ : ∃ x', x' = x - 1 := ⟨_, rfl⟩
              rw [← hx'] at hxx OW M7
              obtain ⟨g2, c2, rfl, _, hg2⟩ := OW.out.form (by omega)
              obtain ⟨a1, t1, et⟩ : ∃ a1 t1, l1 = a1 :: t1 := by
                cases l1 with
                | nil => have := E2.out; simp at this; omega
                | cons a1 t1 => exact ⟨a1, t1, rfl⟩
              subst et
              have hc0 : w7.cell? ⟨g2, 0, none⟩ = some (.int .i64 (a1 : Int)) := mine_at (l := a1 :: t1 ++ l2) (by rw [hxx]; exact M7.out) rfl
              have hx'0 : (0 : Int) < (x' : Int) := by omega
              have LX := hid hxx
              have HX' := hid hx'
              have hx'1 : x' + 1 = x := by omega
              have hx'2 : x' ≤ 20 := by omega
              have NU : Hid (∀ u ∈ a1 :: t1 ++ l2, u < i) := fun u hu => U.out u (by rw [E1.out]; simp at hu ⊢; rcases hu with q | q | q <;> simp [q])
              clear hxx hx' O7 O6 K6 K7 SA SB M5 H5 OW
              go_wp2_with fail
              refine (allC H7.out (by omega) (c := a1) (tl := t1 ++ l2) NU.out NR.out.1 (by have := LX.out; simp at this ⊢; omega)).mono ?_
              rintro e w8 ⟨v8, rfl, o8, h8, k8⟩
              have H8 := hid h8
              have O8 := hid o8
              have M8 := hid (M7.out.stay k8)
              clear h8 o8 k8 H7 M7 hc0
              go_wp2_with fail
              refine (sameN v8 _ (a1 :: t1 ++ l2) (a1 :: t1 ++ l2) rfl (by rw [LX.out]; omega) w8 (by exact own_base O8.out (Nat.zero_le _)) (by rw [LX.out]; exact M8.out.own)).mono ?_
              rintro e w9 ⟨rfl, nd, rfl⟩
              have H9 := hid (H8.out.drewN nd)
              have M9 := hid (M8.out.plain ((Kept.refl _ _).drewN nd))
              clear H8 M8 O8
              go_wp2
              go_roundw
              case rel => exact ⟨m + 1, t + 8 + 1 + 2 * ((t1 ++ l2).length + 1), _, _, a1 :: t1 ++ l2, by go_num, by rw [LX.out]; omega, by rw [LX.out]; omega, by omega, by have := LX.out; simp at this ⊢; omega, H9.out, NR.out.1, NU.out, by rw [LX.out]; exact M9.out⟩
              case measure => simp [intOf]; omega
          · have hx1' : ¬ (1 : Int) < (x : Int) := by omega
            have hlt' : (m : Int) < (l.length : Int) := by omega
            go_wp2_with fail
            refine (known_any _).mono ?_
            rintro e w3 ⟨rfl, hb3⟩
            have B3 := hid (HH.out.1.bel.trans (hb3.mono HH.out.1.bel.size))
            clear hb3 HH
            go_wp2
            go_ret
            exact ⟨rfl, B3.out⟩
        · have hlt' : ¬ (m : Int) < (l.length : Int) := by omega
          go_wp2_with fail
          refine (known_any _).mono ?_
          rintro e w3 ⟨rfl, hb3⟩
          have B3 := hid (HH.out.1.bel.trans (hb3.mono HH.out.1.bel.size))
          clear hb3 HH
          go_wp2
          go_ret
          exact ⟨rfl, B3.out⟩
end Go.Proofs.Yticpldlckdckdaa
