/- Leftist heaps: the walks of detach, Push, Fall, Cut. -/
import Derived.Test.YtnkpopeahmjodaaGreatLh
namespace Go.Proofs.YtnkpopeahmjodaaGreat
open Go.ChangeShapes Go.WideShapes Go.ChangeAt Go.RowKit

section
variable {F : Nat → Prop} {w0 w w' : World} {pa pm : Nat} {s s' : St}
theorem det_go {k : Nat} {s : St} {up : Int} (h : dOk k s up) (h1 : up ≠ -1) : ∃ k', k = k' + 1 ∧ rkS s (lcS s up) < 1000000 ∧ rkS s (rcS s up) < 1000000 ∧ (dtB s up = false ∧ detS k s up = dtS s up ∨ dtB s up = true ∧ dOk k' (tk (dtS s up) 1) (cellS (dtS s up) up 0) ∧ detS k s up = detS k' (tk (dtS s up) 1) (cellS (dtS s up) up 0)) := by
  cases k with
  | zero => exact h.elim
  | succ k =>
    unfold dOk at h
    rcases h with h | ⟨a, b, h⟩
    · exact absurd h h1
    · refine ⟨k, rfl, a, b, ?_⟩
      cases hb : dtB s up with
      | false => exact Or.inl ⟨rfl, by unfold detS; rw [if_neg h1, hb, if_neg (by decide)]⟩
      | true =>
        rw [hb] at h
        rcases h with h | h
        · cases h
        · exact Or.inr ⟨rfl, h, by rw [detS, if_neg h1, if_pos hb]⟩
theorem det_none {k : Nat} {s : St} (h : dOk k s (-1)) : detS k s (-1) = tk s 4 := by
  cases k with
  | zero => exact h.elim
  | succ k => unfold detS; rw [if_pos rfl]

set_option maxHeartbeats 2000000 in
theorem detachT (k : Nat) (n : Int) (hok : dOk k (setS (tk s 1) n 0 (-1)) (cellS s n 0)) (hk : k ≤ s.most) (hm : s.most ≤ 65536) (h : Ex F w0 w pa pm s) (hs : s.steps + 13 * k ≤ 99990000) :
    Calls Tryz.prog 60 #[.pointer (some ⟨pa, 0, none⟩), .int .i64 n] w fun e w' => e = .returned (.tuple #[]) ∧ Ex F w0 w' pa pm (detS k (setS (tk s 1) n 0 (-1)) (cellS s n 0)) := by
  have C := hid (cellT n 0 h (by omega))
  have CU := hid (Cl.cell s n 0 hm)
  have OK := hid hok
  have ME := hid (set_most (tk s 1) n 0 (-1))
  have SE := hid (set_steps (tk s 1) n 0 (-1))
  clear h hok
  generalize cellS s n 0 = up at *
  generalize hs2 : setS (tk s 1) n 0 (-1) = s2 at *
  generalize hfin : detS k s2 up = fin
  have FIN := hid hfin
  clear hfin
  have HS2 := hid hs2
  clear hs2
  go_enter Tryz.func60, Tryz.ntmps60
  go_wp2_with fail
  refine C.out.mono ?_
  rintro e w1 ⟨rfl, h1⟩
  have H1 := hid h1
  clear h1 C
  have S := hid (setT n 0 (-1) H1.out (by show s.steps + 1 ≤ _; omega))
  generalize mayS (tk s 1) n 0 = m1 at S
  rw [HS2.out] at S
  go_wp2_with fail
  refine S.out.mono ?_
  rintro e w2 ⟨rfl, h2⟩
  have H2 := hid h2
  clear h2 H1 S
  have HC := hid (cellsA pa pm s2 F w2 H2.out.is)
  obtain ⟨mo, hmo⟩ : ∃ mo, mo = s.most := ⟨_, rfl⟩
  have MO := hid hmo
  rw [show s2.most = mo from ME.out.trans MO.out.symm] at HC
  rw [← hmo] at hk hm
  clear hmo
  go_wp2_with fail
  refine HC.out.mono ?_
  rintro e w3 ⟨rfl, rfl⟩
  clear HC
  have ST := hid (show s2.steps + 13 * k ≤ 99990010 by rw [SE.out]; show s.steps + 1 + 1 + 13 * k ≤ _; omega)
  have SM := hid (show s2.most = mo from ME.out.trans MO.out.symm)
  have hm' : (mo : Int) ≤ 65536 := by omega
  clear SE ME MO HS2 hs
  go_wp2_with fail
  go_loopw [4, 5, 6, 15] (fun uv _ _ iv wr => ∃ (i j : Nat) (u : Int) (sr : St), iv = .int .i64 i ∧ uv = .int .i64 u ∧ i + j ≤ mo ∧ dOk j sr u ∧ detS j sr u = fin ∧ Cl u ∧ sr.most = mo ∧ sr.steps + 13 * j ≤ 99990010 ∧ Ex F w0 wr pa pm sr) (fun _ _ _ i _ => mo - (intOf i).toNat)
  case atStart => exact ⟨0, k, up, s2, rfl, rfl, by omega, OK.out, FIN.out, CU.out, SM.out, ST.out, H2.out⟩
  case round =>
    clear H2 OK FIN CU SM ST
    obtain ⟨i, j, u, sr, rfl, rfl, hij, hok, hfin, hu, hsm, hst, hh⟩ := hrel
    have HU := hid hu
    have SM := hid (show sr.most ≤ 65536 by omega)
    have SM2 := hid hsm
    have HH := hid hh
    clear hu hsm hh hk
    by_cases c1 : u = -1
    · subst c1
      have FI := hid (hfin.symm.trans (det_none hok))
      have hj : 1 ≤ j := by cases j with
        | zero => exact hok.elim
        | succ j => omega
      have hlt : (i : Int) < (mo : Int) := by omega
      clear hfin hok
      go_wp2_with fail
      refine (childrenT (-1) HH.out (by omega)).mono ?_
      rintro e w4 ⟨rfl, h4⟩
      have H4 := hid h4
      clear h4 HH
      generalize lcS sr (-1) = c
      generalize rcS sr (-1) = d
      go_wp2
      refine bodyPost_ret (results_none rfl _ _ _) rfl ?_
      rw [FI.out]
      exact ⟨rfl, H4.out⟩
    · obtain ⟨j', hj, r1, r2, hh⟩ := det_go hok c1
      have hlt : (i : Int) < (mo : Int) := by omega
      have c1' : (u == -1) = false := by simp [c1]
      have C1 := hid (Cl.lc sr u SM.out)
      have C2 := hid (Cl.rc sr u SM.out)
      have R1 := hid (show rkS (tk sr 4) (lcS sr u) < 1000000 from r1)
      have R2 := hid (show rkS (tk sr 4) (rcS sr u) < 1000000 from r2)
      have D1 := hid (show dtS sr u = leanS (tk sr 4) u (lcS sr u) (rcS sr u) from rfl)
      have D2 := hid (show dtB sr u = leanB (tk sr 4) u (lcS sr u) (rcS sr u) from rfl)
      have DS := hid (dt_steps sr u)
      have DM := hid (dt_most sr u)
      have HC := hid hh
      have FI := hid hfin
      clear r1 r2 hh hok hfin
      generalize dtS sr u = sd at *
      generalize dtB sr u = bd at *
      go_wp2_with fail
      refine (childrenT u HH.out (by omega)).mono ?_
      rintro e w4 ⟨rfl, h4⟩
      have L := hid (leanT u (lcS sr u) (rcS sr u) HU.out C1.out C2.out R1.out R2.out h4 (by show sr.steps + 4 ≤ _; omega))
      rw [← D1.out, ← D2.out] at L
      clear h4 HH D1 D2 R1 R2
      generalize lcS sr u = c at *
      generalize rcS sr u = d at *
      rcases HC.out with ⟨hb, he⟩ | ⟨hb, hd, he⟩
      · subst hb
        have E := hid (he.symm.trans FI.out)
        clear he HC FI
        go_wp2_with fail
        refine L.out.mono ?_
        rintro e w5 ⟨rfl, h5⟩
        have H5 := hid h5
        clear h5 L
        go_wp2
        refine bodyPost_ret (results_none rfl _ _ _) rfl ?_
        rw [← E.out]
        exact ⟨rfl, H5.out⟩
      · subst hb
        have E := hid (he.symm.trans FI.out)
        have HD := hid hd
        clear he HC FI hd
        have CU := hid (Cl.cell sd u 0 (by rw [DM.out]; exact SM.out))
        obtain ⟨u2, hu2⟩ : ∃ u2, u2 = cellS sd u 0 := ⟨_, rfl⟩
        rw [← hu2] at CU E HD
        have EU := hid hu2
        clear hu2
        go_wp2_with fail
        refine L.out.mono ?_
        rintro e w5 ⟨rfl, h5⟩
        have C := hid (cellT u 0 h5 (by rw [DS.out]; omega))
        rw [← EU.out] at C
        clear h5 L EU
        go_wp2_with fail
        refine C.out.mono ?_
        rintro e w6 ⟨rfl, h6⟩
        have H6 := hid h6
        clear h6 C
        go_wp2
        go_roundw
        case measure => simp [intOf]; omega
        case rel => exact ⟨i + 1, j', u2, tk sd 1, by simp, rfl, by omega, HD.out, E.out, CU.out, DM.out.trans SM2.out, by show sd.steps + 1 + 13 * j' ≤ _; rw [DS.out]; omega, H6.out⟩
end
end Go.Proofs.YtnkpopeahmjodaaGreat
