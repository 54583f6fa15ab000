/- The walk of ChainJoins. -/
import Derived.Test.YticpldlckdckdaaSg
import Derived.Test.YticpldlckdckdaaLift
namespace Go.Proofs.Yticpldlckdckdaa
open Go.ChangeShapes Go.WideShapes Go.ChangeAt Go.RowKit

theorem Src.tail {P : Nat → Prop} {w : World} {b off n cap c : Nat} {tl : List Nat} (h : Lies P w (.slice (some ⟨b, off, none⟩) n cap) (c :: tl)) : Src w.heap.size w (.slice (some ⟨b, off + 1, none⟩) (n - 1) (cap - 1)) tl ∧ tl.length + 1 = n := by
  rcases h with ⟨e, _⟩ | ⟨b', off', cap', e, h1, h2, h3, h4, h5⟩
  · cases e
  · cases e
    refine ⟨Or.inr ⟨b, off + 1, cap - 1, by simp, h3, fun i x hx => ?_⟩, by simp⟩
    have := h5 (i + 1) x (by simpa using hx)
    rwa [show off + 1 + i = off + (i + 1) by omega]
theorem Src.empty {B : Nat} {w : World} {b off c : Nat} (h : b < B) : Src B w (.slice (some ⟨b, off, none⟩) 0 c) [] := Or.inr ⟨b, off, c, rfl, h, fun i x hx => by simp at hx⟩
theorem rng_lt {a b p x : Nat} (h1 : a ≤ p) (h2 : p < b) (h : x ∈ p :: (List.range' (p + 1) (b - p - 1) ++ List.range' a (p - a))) : a ≤ x ∧ x < b := by
  simp only [List.mem_cons, List.mem_append, List.mem_range'] at h
  rcases h with h | ⟨j, h3, h4⟩ | ⟨j, h3, h4⟩ <;> omega
theorem rng_len {a b p : Nat} (h1 : a ≤ p) (h2 : p < b) : (List.range' (p + 1) (b - p - 1) ++ List.range' a (p - a)).length + 1 = b - a := by
  simp; omega

set_option maxRecDepth 100000 in
set_option maxHeartbeats 4000000 in
theorem joins_walk (n m c d : Int) (hn : I64 n) (hm : I64 m) (hc : I64 c) (hd : I64 d) (w : World) :
    Calls Try.prog 6 #[.int .i64 n, .int .i64 m, .int .i64 c, .int .i64 d] w fun e w' => e = .returned (.bool true) ∧ Below w.heap.size w w' := by
  have HC := hid hc
  have HD := hid hd
  have HM := hid hm
  clear hc hd hm
  go_enter Try.func6, Try.ntmps6
  go_wp2_with fail
  refine (within_any n hn 1 10 (by decide) (by decide) (by decide) w).mono ?_
  rintro e w1 ⟨x, rfl, hx1, hx2, rfl⟩
  go_wp2_with fail
  refine (within_any m HM.out 1 10 (by decide) (by decide) (by decide) w1).mono ?_
  rintro e w2 ⟨y, rfl, hy1, hy2, rfl⟩
  obtain ⟨x, rfl⟩ : ∃ x' : Nat, x = (x' : Int) := ⟨x.toNat, by omega⟩
  obtain ⟨y, rfl⟩ : ∃ y' : Nat, y = (y' : Int) := ⟨y.toNat, by omega⟩
  obtain ⟨z, hz⟩ : ∃ z, z = x + y := ⟨_, rfl⟩
  have hxy : (x : Int) + (y : Int) = (z : Int) := by omega
  have HZ := hid hz
  have hz20 : z ≤ 20 := by omega
  have hzx : x < z := by omega
  clear hz
  go_wp2_with fail
  refine (newC z (by omega) w2).mono ?_
  rintro e w3 ⟨F, pa, pm, rfl, h3⟩
  have H3 := hid h3
  clear h3 hn HM
  go_wp2
  go_loopw [12, 13, 14] (fun iv _ _ wr => ∃ (i t : Nat) (G : Nat → Prop) (nx pv : Nat → Nat), iv = .int .i64 i ∧ i ≤ z ∧ t ≤ 19 * i ∧ Hr w2 wr G pa pm z i nx pv t ∧ Sg nx 0 (min i x) ∧ Sg nx x i) (fun i _ _ _ => z - (intOf i).toNat)
  case atStart => exact ⟨0, 0, F, id, id, rfl, by omega, by omega, H3.out, fun h => by omega, fun h => by omega⟩
  case round =>
    clear H3
    obtain ⟨i, t, G, nx, pv, rfl, hi, ht, hh, s1, s2⟩ := hrel
    have HH := hid hh
    have S1 := hid s1
    have S2 := hid s2
    clear hh s1 s2
    by_cases hlt : i < z
    · have hlt' : (i : Int) < (z : Int) := by omega
      go_wp2_with fail
      refine (takeC HH.out (by omega) hlt).mono ?_
      rintro e w4 ⟨rfl, h4, k4⟩
      have H4 := hid h4
      generalize Grow G wr w4 = G4 at H4
      clear h4 k4
      go_wp2_with fail
      refine (oneV HH.out.2 H4.out (by omega)).mono ?_
      rintro e w5 ⟨rfl, h5, k5⟩
      have H5 := hid h5
      have I := hid HH.out.2
      clear h5 k5 H4 HH
      rcases (by omega : (i = 0 ∨ i = x) ∨ (0 < i ∧ i ≠ x)) with hc | ⟨hc1, hc2⟩
      · have NS : Hid (Sg (nxt nx i) 0 (min (i + 1) x) ∧ Sg (nxt nx i) x (i + 1)) := by
          rcases hc with rfl | rfl
          · refine ⟨?_, fun h => by omega⟩
            rw [show min (0 + 1) x = 0 + 1 by omega]
            exact Sg.here
          · refine ⟨?_, Sg.here⟩
            have := S1.out.one (k := i) (by omega)
            rwa [show min (i + 1) i = min i i by omega]
        rcases hc with hc | hc
        · subst hc
          go_wp2
          go_roundw
          case rel => exact ⟨0 + 1, t + 1 + 6, G4, _, _, by go_num, by omega, by omega, H5.out, NS.out.1, NS.out.2⟩
          case measure => simp [intOf]; omega
        · have hce : ((i : Int) != (x : Int)) = false := by simp; omega
          have hi0 : (0 : Int) < (i : Int) := by omega
          go_wp2
          go_roundw
          case rel => exact ⟨i + 1, t + 1 + 6, G4, _, _, by go_num, by omega, by omega, H5.out, NS.out.1, NS.out.2⟩
          case measure => simp [intOf]; omega
      · have hce : ((i : Int) != (x : Int)) = true := by simp; omega
        have hi0 : (0 : Int) < (i : Int) := by omega
        obtain ⟨j, hj⟩ : ∃ j, j = i - 1 := ⟨_, rfl⟩
        have hij : (i : Int) - 1 = (j : Int) := by omega
        have HJ := hid hj
        have hji : j < i := by omega
        clear hj
        have NS : Hid (Sg (swN (nxt nx i) (nxt pv i) j i) 0 (min (i + 1) x) ∧ Sg (swN (nxt nx i) (nxt pv i) j i) x (i + 1)) := by
          rw [HJ.out]
          have hI := I.out.more
          rcases (by omega : i < x ∨ x < i) with q | q
          · refine ⟨?_, fun h => by omega⟩
            have := S1.out.one (k := i) (by omega)
            rw [show min i x = i by omega] at this
            rw [show min (i + 1) x = i + 1 by omega]
            exact this.put hI (by omega) (by simp [nxt])
          · have q1 := S1.out.one (k := i) (by omega)
            have q2 := S2.out.one (k := i) (by omega)
            rw [show min (i + 1) x = min i x by omega]
            exact ⟨q1.keep hI (by omega), q2.put hI (by omega) (by simp [nxt])⟩
        go_wp2_with fail
        refine (putC H5.out (by omega) (c := j) (d := i) (by omega) (by omega) (by omega) (by simp [nxt])).mono ?_
        rintro e w6 ⟨rfl, h6, k6⟩
        have H6 := hid h6
        clear h6 k6 H5
        go_wp2
        go_roundw
        case rel => exact ⟨i + 1, t + 1 + 6 + 12, G4, _, _, by go_num, by omega, by omega, H6.out, NS.out.1, NS.out.2⟩
        case measure => simp [intOf]; omega
    · obtain rfl : i = z := by omega
      have R1 := hid (S1.out)
      rw [show min i x = x by omega] at R1
      have R2 := S2.out
      clear S1 hlt S2
      go_wp2_with fail
      refine (within_any c HC.out 0 ((x : Int) - 1) (by decide) (by omega) (by omega) wr).mono ?_
      rintro e w4 ⟨p, rfl, hp1, hp2, rfl⟩
      go_wp2_with fail
      refine (within_any d HD.out 0 ((y : Int) - 1) (by decide) (by omega) (by omega) w4).mono ?_
      rintro e w5 ⟨q, rfl, hq1, hq2, rfl⟩
      obtain ⟨p, rfl⟩ : ∃ p' : Nat, p = (p' : Int) := ⟨p.toNat, by omega⟩
      obtain ⟨q', hq'⟩ : ∃ q' : Nat, (x : Int) + q = (q' : Int) := ⟨(x + q).toNat, by omega⟩
      have hqx : x ≤ q' := by omega
      have hqi : q' < i := by have := HZ.out; omega
      have hpx : p < x := by omega
      obtain ⟨tc, htc⟩ : ∃ tc, tc = List.range' (p + 1) (x - p - 1) ++ List.range' 0 (p - 0) := ⟨_, rfl⟩
      obtain ⟨td, htd⟩ : ∃ td, td = List.range' (q' + 1) (i - q' - 1) ++ List.range' x (q' - x) := ⟨_, rfl⟩
      have rc := R1.out.at (p := p) (by omega) hpx
      have rd := R2.at (p := q') hqx hqi
      have lc := rng_len (a := 0) (b := x) (p := p) (by omega) hpx
      have ld := rng_len (a := x) (b := i) (p := q') hqx hqi
      have mc : ∀ u ∈ p :: tc, u < x := fun u hu => by rw [htc] at hu; exact (rng_lt (Nat.zero_le _) hpx hu).2
      have md : ∀ u ∈ q' :: td, x ≤ u ∧ u < i := fun u hu => by rw [htd] at hu; exact rng_lt hqx hqi hu
      rw [← htc] at rc lc
      rw [← htd] at rd ld
      have lc' : tc.length + 1 = x := by omega
      have ld' : td.length + 1 = y := by have := HZ.out; omega
      have RC := hid rc
      have RD := hid rd
      have MC := hid mc
      have MD := hid md
      have LC := hid lc'
      have LD := hid ld'
      clear rc rd lc ld mc md htc htd R1 R2 lc' ld'
      go_wp2_with fail
      refine (allC HH.out (by omega) (c := p) (tl := tc) (fun u hu => by have := MC.out u hu; omega) RC.out (by have := LC.out; omega)).mono ?_
      rintro e w6 ⟨v6, rfl, o6, h6, k6⟩
      rw [LC.out] at o6
      have O6 := hid o6
      have H6 := hid h6
      have FL := hid HH.out.1.lt
      clear o6 h6 k6 HH
      go_wp2_with fail
      refine (allC H6.out (by have := LC.out; omega) (c := q') (tl := td) (fun u hu => (MD.out u hu).2) RD.out (by have := LD.out; omega)).mono ?_
      rintro e w7 ⟨v7, rfl, o7, h7, k7⟩
      rw [LD.out] at o7
      have O7 := hid o7
      have H7 := hid h7
      have O6' := hid (own_kept O6.out k7 (fun j hj hF => by have := FL.out j hF; have := (O6.out.lt j hj).1; omega))
      have FL6 := hid H6.out.1.lt
      clear o7 h7 k7 H6 O6
      obtain ⟨g6, c6, rfl, _, hg6⟩ := O6'.out.form (by omega)
      obtain ⟨g7, c7, rfl, _, hg7⟩ := O7.out.form (by omega)
      go_wp2_with fail
      refine (joinC H7.out (by have := LC.out; have := LD.out; omega) (c := p) (d := q') (by omega) (by omega)).mono ?_
      rintro e w8 ⟨rfl, h8, k8⟩
      have H8 := hid h8
      have L6 := hid (Lies.of_own (P := fun _ => True) (l := p :: tc) (by have := own_kept O6'.out k8 (fun j hj hF => by have := FL.out j hF; have := (O6'.out.lt j hj).1; omega); rw [List.length_cons, LC.out]; exact this) (fun _ _ _ => trivial))
      have L7 := hid (Lies.of_own (P := fun _ => True) (l := q' :: td) (by have := own_kept O7.out k8 (fun j hj hF => by have := FL6.out j hF; have := (O7.out.lt j hj).1; omega); rw [List.length_cons, LD.out]; exact this) (fun _ _ _ => trivial))
      have hg6' : g6 < w8.heap.size := Nat.lt_of_lt_of_le hg6 k8.size
      have hc6 : x ≤ c6 ∧ c6 ≤ maxLen := by
        rcases L6.out with ⟨e, _⟩ | ⟨b', off', cap', e, h1, h2, _⟩
        · cases e
        · cases e; have := LC.out; simp at h1; exact ⟨by omega, h2⟩
      have RJ := hid (Rnd.join H7.out.2 (fun u hu => (MD.out u hu).2) RC.out RD.out (fun u hu hu' => by have := MC.out u hu; have := (MD.out u hu').1; omega))
      have S7 := hid L7.out.src
      have S6 := hid (Src.tail L6.out).1
      have b1 : (1 : Int) ≤ (x : Int) := by omega
      have b2 : (x : Int) ≤ (c6 : Int) := by omega
      have b3 : (1 : Int) ≤ (c6 : Int) := by omega
      obtain ⟨hca, hcb⟩ := hc6
      unfold maxLen at hcb
      clear h8 k8 H7 O6' O7 hg6 hg7 FL FL6 L6 L7
      by_cases hc1 : c6 = 1
      · subst hc1
        replace S6 : Hid (Src w8.heap.size w8 (.slice (some ⟨g6, 0, none⟩) 0 0) tc) :=
          Or.inr ⟨g6, 0, 0, by rw [show tc.length = 0 by have := LC.out; omega], hg6', fun j u hu => by
            rw [List.eq_nil_of_length_eq_zero (show tc.length = 0 by have := LC.out; omega)] at hu; simp at hu⟩
        go_wp2_with fail
        go_region_held3 (fun _ => True) (trivial)
          (first
            | (refine step_append_src rfl (.tmp 90) (.tmp 91) rfl w8.heap.size w8.heap.size _ _ 1 (row nat1 [p]) (q' :: td) rfl rfl (by exact World.ownsRow_lit (base := w8.heap.size) (e := 3) (size := 1) _ #[.int .i64 (p : Int)] 1 (Nat.le_refl _) (by simp [maxLen]) rfl) (by exact S7.out.kept (((Kept.refl (fun _ => False) w8).drewN _).alloc _).plain0) (by have := LD.out; simp; omega) (by simp) ?_; intro v1 w9 o1 g1; have K9 := hid ((((Kept.refl (fun _ => False) w8).drewN _).alloc _).grown g1 (fun k hk => Or.inr (by cases hk; simp))); have O9 := hid o1; clear o1 g1)
            | (refine step_append_src rfl (.tmp 92) (.tmp 94) rfl w8.heap.size w8.heap.size v1 _ _ _ tc rfl rfl (by exact O9.out) (by exact S6.out.kept K9.out.plain0) (by have := LD.out; have := LC.out; simp; omega) (by exact K9.out.size) ?_; intro v2 w10 o2 g2; have K10 := hid (K9.out.grown g2 (fun k hk => Or.inr (O9.out.lt k hk).1)); have O10 := hid o2; clear o2 g2))
        have OW : Hid (w10.ownsRow w8.heap.size 3 1 v2 (p :: (q' :: td) ++ tc).length (row nat1 (p :: (q' :: td) ++ tc))) := by
          have := O10.out
          rw [row_append, show row nat1 (p :: q' :: td) = row nat1 [p] ++ row nat1 (q' :: td) from rfl, show (p :: (q' :: td) ++ tc).length = 1 + (q' :: td).length + tc.length by simp; omega]
          exact this
        have H10 := hid (H8.out.plain K10.out)
        have LL := hid (show ((q' :: td) ++ tc).length + 1 = i by have := LC.out; have := LD.out; have := HZ.out; simp; omega)
        have BT := hid (show t + 2 * (tc.length + 1) + 2 * (td.length + 1) + 8 ≤ 1000 by have := LC.out; have := LD.out; have := HZ.out; omega)
        have FB : Hid (∀ j, G j → j < w8.heap.size) := H8.out.1.lt
        clear O10 O9 K9 S7 H8 S6
        go_wp2_with fail
        refine (allC H10.out (by have := BT.out; omega) (c := p) (tl := (q' :: td) ++ tc) (fun u hu => by
          simp only [List.cons_append, List.mem_cons, List.mem_append] at hu
          rcases hu with hu | hu | hu | hu
          · omega
          · omega
          · exact (MD.out u (by simp [hu])).2
          · have := MC.out u (by simp [hu]); omega) RJ.out (by have := LL.out; omega)).mono ?_
        rintro e w11 ⟨v11, rfl, o11, h11, k11⟩
        have O11 := hid o11
        have H11 := hid h11
        have OW11 := hid (own_kept OW.out k11 (fun j hj hF => by have := FB.out j hF; have := (OW.out.lt j hj).1; omega))
        clear o11 h11 k11 H10 OW
        go_wp2_with fail
        refine (sameN v11 v2 (p :: (q' :: td) ++ tc) (p :: (q' :: td) ++ tc) rfl (by have := LL.out; simp at *; omega) w11 (by exact own_base O11.out (Nat.zero_le _)) (by exact own_base OW11.out (Nat.zero_le _))).mono ?_
        rintro e w12 ⟨rfl, nd, rfl⟩
        have H12 := hid (H11.out.drewN nd)
        have RQ := hid (show Rnd (swN nx pv p q') (q' :: (td ++ tc ++ [p])) by
          have := Rnd.turn (l := [p]) (m := q' :: (td ++ tc)) (by simpa using RJ.out)
          simpa using this)
        clear H11 O11 OW11
        go_wp2_with fail
        refine (allC H12.out (by have := BT.out; have := LL.out; omega) (c := q') (tl := td ++ tc ++ [p]) (fun u hu => by
          simp only [List.mem_cons, List.mem_append, List.not_mem_nil, or_false] at hu
          rcases hu with hu | (hu | hu) | hu
          · omega
          · exact (MD.out u (by simp [hu])).2
          · have := MC.out u (by simp [hu]); omega
          · omega) RQ.out (by have := LL.out; simp at *; omega)).mono ?_
        rintro e w13 ⟨v13, rfl, o13, h13, k13⟩
        rw [show (td ++ tc ++ [p]).length + 1 = i by have := LL.out; simp at *; omega] at o13
        obtain ⟨a13, c13, rfl⟩ := own_form o13
        have B13 := hid h13.1.bel
        clear o13 h13 k13 H12
        go_wp2_with fail
        refine (known_any w13).mono ?_
        rintro e w14 ⟨rfl, b14⟩
        have B14 := hid (B13.out.trans (b14.mono B13.out.size))
        clear b14 B13
        go_wp2
        go_ret
        exact ⟨rfl, B14.out⟩
      · have hc2 : ¬ c6 - 1 = 0 := by omega
        go_wp2_with fail
        go_region_held3 (fun _ => True) (trivial)
          (first
            | (refine step_append_src rfl (.tmp 90) (.tmp 91) rfl w8.heap.size w8.heap.size _ _ 1 (row nat1 [p]) (q' :: td) rfl rfl (by exact World.ownsRow_lit (base := w8.heap.size) (e := 3) (size := 1) _ #[.int .i64 (p : Int)] 1 (Nat.le_refl _) (by simp [maxLen]) rfl) (by exact S7.out.kept (((Kept.refl (fun _ => False) w8).drewN _).alloc _).plain0) (by have := LD.out; simp; omega) (by simp) ?_; intro v1 w9 o1 g1; have K9 := hid ((((Kept.refl (fun _ => False) w8).drewN _).alloc _).grown g1 (fun k hk => Or.inr (by cases hk; simp))); have O9 := hid o1; clear o1 g1)
            | (refine step_append_src rfl (.tmp 92) (.tmp 94) rfl w8.heap.size w8.heap.size v1 _ _ _ tc rfl rfl (by exact O9.out) (by exact S6.out.kept K9.out.plain0) (by have := LD.out; have := LC.out; simp; omega) (by exact K9.out.size) ?_; intro v2 w10 o2 g2; have K10 := hid (K9.out.grown g2 (fun k hk => Or.inr (O9.out.lt k hk).1)); have O10 := hid o2; clear o2 g2))
        have OW : Hid (w10.ownsRow w8.heap.size 3 1 v2 (p :: (q' :: td) ++ tc).length (row nat1 (p :: (q' :: td) ++ tc))) := by
          have := O10.out
          rw [row_append, show row nat1 (p :: q' :: td) = row nat1 [p] ++ row nat1 (q' :: td) from rfl, show (p :: (q' :: td) ++ tc).length = 1 + (q' :: td).length + tc.length by simp; omega]
          exact this
        have H10 := hid (H8.out.plain K10.out)
        have LL := hid (show ((q' :: td) ++ tc).length + 1 = i by have := LC.out; have := LD.out; have := HZ.out; simp; omega)
        have BT := hid (show t + 2 * (tc.length + 1) + 2 * (td.length + 1) + 8 ≤ 1000 by have := LC.out; have := LD.out; have := HZ.out; omega)
        have FB : Hid (∀ j, G j → j < w8.heap.size) := H8.out.1.lt
        clear O10 O9 K9 S7 H8 S6
        go_wp2_with fail
        refine (allC H10.out (by have := BT.out; omega) (c := p) (tl := (q' :: td) ++ tc) (fun u hu => by
          simp only [List.cons_append, List.mem_cons, List.mem_append] at hu
          rcases hu with hu | hu | hu | hu
          · omega
          · omega
          · exact (MD.out u (by simp [hu])).2
          · have := MC.out u (by simp [hu]); omega) RJ.out (by have := LL.out; omega)).mono ?_
        rintro e w11 ⟨v11, rfl, o11, h11, k11⟩
        have O11 := hid o11
        have H11 := hid h11
        have OW11 := hid (own_kept OW.out k11 (fun j hj hF => by have := FB.out j hF; have := (OW.out.lt j hj).1; omega))
        clear o11 h11 k11 H10 OW
        go_wp2_with fail
        refine (sameN v11 v2 (p :: (q' :: td) ++ tc) (p :: (q' :: td) ++ tc) rfl (by have := LL.out; simp at *; omega) w11 (by exact own_base O11.out (Nat.zero_le _)) (by exact own_base OW11.out (Nat.zero_le _))).mono ?_
        rintro e w12 ⟨rfl, nd, rfl⟩
        have H12 := hid (H11.out.drewN nd)
        have RQ := hid (show Rnd (swN nx pv p q') (q' :: (td ++ tc ++ [p])) by
          have := Rnd.turn (l := [p]) (m := q' :: (td ++ tc)) (by simpa using RJ.out)
          simpa using this)
        clear H11 O11 OW11
        go_wp2_with fail
        refine (allC H12.out (by have := BT.out; have := LL.out; omega) (c := q') (tl := td ++ tc ++ [p]) (fun u hu => by
          simp only [List.mem_cons, List.mem_append, List.not_mem_nil, or_false] at hu
          rcases hu with hu | (hu | hu) | hu
          · omega
          · exact (MD.out u (by simp [hu])).2
          · have := MC.out u (by simp [hu]); omega
          · omega) RQ.out (by have := LL.out; simp at *; omega)).mono ?_
        rintro e w13 ⟨v13, rfl, o13, h13, k13⟩
        rw [show (td ++ tc ++ [p]).length + 1 = i by have := LL.out; simp at *; omega] at o13
        obtain ⟨a13, c13, rfl⟩ := own_form o13
        have B13 := hid h13.1.bel
        clear o13 h13 k13 H12
        go_wp2_with fail
        refine (known_any w13).mono ?_
        rintro e w14 ⟨rfl, b14⟩
        have B14 := hid (B13.out.trans (b14.mono B13.out.size))
        clear b14 B13
        go_wp2
        go_ret
        exact ⟨rfl, B14.out⟩
end Go.Proofs.Yticpldlckdckdaa
