/- Several texts in one. -/
import Derived.Test.YteibfnclillnnabGreatGg
import Derived.Test.YteibfnclillnnabGreatGb
import Derived.Test.YteibfnclillnnabGreatGf
/- The walk of item.Swap: two nodes change their items. -/
namespace Go.Proofs.YteibfnclillnnabGreat
open Go.ChangeShapes Go.WideShapes Go.ChangeAt Go.RowKit

/-- the state behind Swap -/
def swB (s : St) (n m i j : Nat) : St := setS (setS (setS (setS (tk s 2) (n : Int) 6 (j : Int)) (j : Int) 9 (n : Int)) (m : Int) 6 (i : Int)) (i : Int) 9 (m : Int)

theorem swB_steps (s : St) (n m i j : Nat) : (swB s n m i j).steps = s.steps + 6 := by unfold swB; rw [set_steps, set_steps, set_steps, set_steps]; rfl
theorem swB_view {s : St} {n m i j : Nat} (ok : Ok s) (hn : LS s n = true) (hm : LS s m = true) (hi : LS s i = true) (hj : LS s j = true) :
    Sm s (swB s n m i j) ∧ hasS (swB s n m i j) = put (put (put (put (hasS s) n 6 (j : Int)) j 9 (n : Int)) m 6 (i : Int)) i 9 (m : Int) := by
  have m0 := Sm.tk ok 2
  have m1 := m0.trans (Sm.set m0.ok (n : Int) 6 (j : Int))
  have v1 : hasS (setS (tk s 2) (n : Int) 6 (j : Int)) = put (hasS s) n 6 (j : Int) := set_has (s := tk s 2) (j := 6) hn (by decide)
  have m2 := m1.trans (Sm.set m1.ok (j : Int) 9 (n : Int))
  have v2 : hasS (setS (setS (tk s 2) (n : Int) 6 (j : Int)) (j : Int) 9 (n : Int)) = put (put (hasS s) n 6 (j : Int)) j 9 (n : Int) := by rw [← v1]; exact set_has (j := 9) (by rw [m1.ls]; exact hj) (by decide)
  have m3 := m2.trans (Sm.set m2.ok (m : Int) 6 (i : Int))
  have v3 : hasS (setS (setS (setS (tk s 2) (n : Int) 6 (j : Int)) (j : Int) 9 (n : Int)) (m : Int) 6 (i : Int)) = put (put (put (hasS s) n 6 (j : Int)) j 9 (n : Int)) m 6 (i : Int) := by rw [← v2]; exact set_has (j := 6) (by rw [m2.ls]; exact hm) (by decide)
  have m4 := m3.trans (Sm.set m3.ok (i : Int) 9 (m : Int))
  refine ⟨m4, ?_⟩
  unfold swB
  rw [← v3]
  exact set_has (j := 9) (by rw [m3.ls]; exact hi) (by decide)

section
variable {F : Nat → Prop} {w0 w w' : World} {pa pm : Nat} {s : St}
set_option maxHeartbeats 2000000 in
theorem swapT (n m i j : Nat) (hnm : n ≠ m) (hn : LS s n = true) (hm : LS s m = true) (hi : LS s i = true) (hj : LS s j = true) (ci : cellS s (n : Int) 6 = (i : Int)) (cj : cellS s (m : Int) 6 = (j : Int)) (ok : Ok s)
    (h : Ex F w0 w pa pm s) (hs : s.steps ≤ 99990000) :
    Calls Tryz.prog 74 #[.pointer (some ⟨pa, 0, none⟩), .int .i64 (n : Int), .int .i64 (m : Int)] w fun e w' => e = .returned (.tuple #[]) ∧ Ex F w0 w' pa pm (swB s n m i j) := by
  have L1 := hid (liveT (n : Int) h)
  rw [show liveS s (n : Int) = true from hn] at L1
  have L2 := hid (liveT (m : Int) h)
  rw [show liveS s (m : Int) = true from hm] at L2
  have C1 := hid (cellT (n : Int) 6 h (by omega))
  rw [ci] at C1
  have ne : ((n : Int) == (m : Int)) = false := by simp; omega
  have K1 := hid (ls_cl ok hn)
  have K2 := hid (ls_cl ok hm)
  have K3 := hid (ls_cl ok hi)
  have K4 := hid (ls_cl ok hj)
  have HC := hid cj
  clear ci cj hn hm hi hj h ok
  go_enter Tryz.func74, Tryz.ntmps74
  go_wp2_with fail
  refine L1.out.mono ?_
  rintro e w1 ⟨rfl, rfl⟩
  go_wp2_with fail
  refine L2.out.mono ?_
  rintro e w2 ⟨rfl, rfl⟩
  go_wp2_with fail
  refine C1.out.mono ?_
  rintro e w3 ⟨rfl, h3⟩
  have C2 := hid (cellT (m : Int) 6 h3 (by show s.steps + 1 ≤ _; omega))
  rw [show cellS (tk s 1) (m : Int) 6 = (j : Int) from HC.out] at C2
  clear h3 C1 L1 L2
  go_wp2_with fail
  refine C2.out.mono ?_
  rintro e w4 ⟨rfl, h4⟩
  have P1 := hid (ilinkT (n : Int) (j : Int) K1.out K4.out (s := tk s 2) h4 (by show s.steps + 2 ≤ _; omega))
  clear h4 C2
  go_wp2_with fail
  refine P1.out.mono ?_
  rintro e w5 ⟨rfl, h5⟩
  have P2 := hid (ilinkT (m : Int) (i : Int) K2.out K3.out h5 (by rw [set_steps, set_steps]; show s.steps + 2 + 1 + 1 ≤ _; omega))
  clear h5 P1
  go_wp2_with fail
  refine P2.out.mono ?_
  rintro e w6 ⟨rfl, h6⟩
  have H6 := hid h6
  clear h6 P2
  go_wp2
  go_end0
  exact ⟨rfl, H6.out⟩
end
end Go.Proofs.YteibfnclillnnabGreat

/- The walk of front: a heap's first tree, and the second one where it has the same Rank. -/
namespace Go.Proofs.YteibfnclillnnabGreat
open Go.ChangeShapes Go.WideShapes Go.ChangeAt Go.RowKit
open Tr

/-- the second tree's node where it has the first one's Rank -/
def twn : List Bn → Int
  | a :: b :: _ => if a.rk = b.rk then (b.n : Int) else -1
  | _ => -1

section
variable {F : Nat → Prop} {w0 w w' : World} {pa pm : Nat} {s : St}
set_option maxHeartbeats 1000000 in
theorem frontT (ts : List Bn) (hv : ∀ b ∈ ts, Vb (LS s) (hasS s) b) (hc : Chs (hasS s) 0 (-1) ts) (ok : Ok s) (h : Ex F w0 w pa pm s) (hs : s.steps ≤ 99990000) :
    Calls Tryz.prog 41 #[.pointer (some ⟨pa, 0, none⟩), .int .i64 (headr ts)] w fun e w' =>
      ∃ k, e = .returned (.tuple #[.int .i64 (headr ts), .int .i64 (twn ts)]) ∧ k ≤ 6 ∧ Ex F w0 w' pa pm (tk s k) := by
  have R := hid (rootT (headr ts) h (by omega))
  have hr : rootS s (headr ts) = headr ts := by
    cases ts with
    | nil => exact root_none
    | cons b r => exact vb_root ok (hv b (by simp))
  rw [hr] at R
  obtain ⟨sc, hsc⟩ : ∃ sc, sc = cellS s (headr ts) 3 := ⟨_, rfl⟩
  obtain ⟨g1, hg1⟩ : ∃ g1, g1 = getS s (headr ts) 4 := ⟨_, rfl⟩
  obtain ⟨g2, hg2⟩ : ∃ g2, g2 = getS s sc 4 := ⟨_, rfl⟩
  have key : twn ts = if g1 = g2 then sc else -1 := by
    match ts, hv, hc with
    | [], _, _ =>
      rw [show headr [] = -1 from rfl, cell_none] at hsc
      subst hsc
      split <;> rfl
    | [a], hv, hc =>
      have ha := hv a (by simp)
      rw [show headr [a] = (a.n : Int) from rfl] at hsc hg1
      rw [show cellS s (a.n : Int) 3 = -1 from cell_neg (j := 3) ha.ln (by omega) hc.2.1] at hsc
      subst hsc
      split <;> rfl
    | a :: b :: r, hv, hc =>
      have ha := hv a (by simp)
      have hb := hv b (by simp)
      rw [show headr (a :: b :: r) = (a.n : Int) from rfl] at hsc hg1
      rw [show cellS s (a.n : Int) 3 = (b.n : Int) from cell_nat (j := 3) ok ha.ln (by omega) hc.2.1 hb.ln] at hsc
      subst hsc
      rw [show getS s (a.n : Int) 4 = (a.rk : Int) from (get_nat (s := s) (j := 4) ha.ln (by omega)).trans ha.rank] at hg1
      rw [show getS s (b.n : Int) 4 = (b.rk : Int) from (get_nat (s := s) (j := 4) hb.ln (by omega)).trans hb.rank] at hg2
      subst hg1 hg2
      show (if a.rk = b.rk then (b.n : Int) else -1) = _
      by_cases q : a.rk = b.rk
      · rw [if_pos q, if_pos (by omega)]
      · rw [if_neg q, if_neg (by omega)]
  obtain ⟨sec, hsec⟩ : ∃ sec, sec = twn ts := ⟨_, rfl⟩
  rw [← hsec] at key ⊢
  have HSEC := hid key
  clear hsec
  generalize headr ts = r0 at *
  have HSC := hid hsc
  have HG1 := hid hg1
  have HG2 := hid hg2
  clear hv hc ok h hr key hsc hg1 hg2
  go_enter Tryz.func41, Tryz.ntmps41
  go_wp2_with fail
  refine R.out.mono ?_
  rintro e w1 ⟨rfl, k, hk, h1⟩
  have C := hid (cellT r0 3 h1 (by show s.steps + k ≤ _; omega))
  rw [show cellS (tk s k) r0 3 = sc from HSC.out.symm] at C
  clear R h1
  go_wp2_with fail
  refine C.out.mono ?_
  rintro e w2 ⟨rfl, h2⟩
  have G := hid (getT r0 4 h2 (by show s.steps + k + 1 ≤ _; omega))
  rw [show getS (tk (tk s k) 1) r0 4 = g1 from HG1.out.symm] at G
  clear C h2
  go_wp2_with fail
  refine G.out.mono ?_
  rintro e w3 ⟨rfl, h3⟩
  have G' := hid (getT sc 4 h3 (by show s.steps + k + 1 + 1 ≤ _; omega))
  rw [show getS (tk (tk (tk s k) 1) 1) sc 4 = g2 from HG2.out.symm] at G'
  clear G h3
  go_wp2_with fail
  refine G'.out.mono ?_
  rintro e w4 ⟨rfl, h4⟩
  have H4 := hid h4
  clear h4 G'
  by_cases q : g1 = g2
  · have q1 : (g1 != g2) = false := by simp [q]
    have HE := hid (HSEC.out.trans (if_pos q))
    clear q
    go_wp2
    go_ret2
    exact ⟨k + 3, by rw [HE.out]; rfl, by omega, H4.out⟩
  · have q1 : (g1 != g2) = true := by simp [q]
    have HE := hid (HSEC.out.trans (if_neg q))
    clear q
    go_wp2
    go_ret2
    exact ⟨k + 3, by rw [HE.out]; rfl, by omega, H4.out⟩
end
end Go.Proofs.YteibfnclillnnabGreat

/- The walk of under: a node comes to be the first child of a tree's top, the item that is before the other's above. -/
namespace Go.Proofs.YteibfnclillnnabGreat
open Go.ChangeShapes Go.WideShapes Go.ChangeAt Go.RowKit
open Tr

/-- under: t the top (its item j), n the node (its item i) -/
def undS (s : St) (t n i j : Nat) : St := lin3 (if nbS s (n : Int) (t : Int) = true then swB (tk s 6) n t i j else tk s 6) (t : Int) (n : Int)
theorem und_steps (s : St) (t n i j : Nat) : s.steps + 10 ≤ (undS s t n i j).steps ∧ (undS s t n i j).steps ≤ s.steps + 16 := by
  unfold undS
  rw [lin3_steps]
  split
  · rw [swB_steps]; exact ⟨by show s.steps + 10 ≤ s.steps + 6 + 6 + 4; omega, by show s.steps + 6 + 6 + 4 ≤ _; omega⟩
  · exact ⟨by show s.steps + 10 ≤ s.steps + 6 + 4; omega, by show s.steps + 6 + 4 ≤ _; omega⟩

section
variable {F : Nat → Prop} {w0 w w' : World} {pa pm : Nat} {s : St}
set_option maxHeartbeats 1000000 in
theorem underT (t n i j : Nat) (hnt : n ≠ t) (hn : LS s n = true) (ht : LS s t = true) (hi : LS s i = true) (hj : LS s j = true) (ci : cellS s (n : Int) 6 = (i : Int)) (cj : cellS s (t : Int) 6 = (j : Int)) (ok : Ok s)
    (h : Ex F w0 w pa pm s) (hs : s.steps ≤ 99980000) :
    Calls Tryz.prog 64 #[.pointer (some ⟨pa, 0, none⟩), .int .i64 (t : Int), .int .i64 (n : Int)] w fun e w' => e = .returned (.int .i64 (t : Int)) ∧ Ex F w0 w' pa pm (undS s t n i j) := by
  have B := hid (nbeforeT (n : Int) (t : Int) h (by omega))
  have SW := hid (fun (wx : World) (hx : Ex F w0 wx pa pm (tk s 6)) => swapT (s := tk s 6) n t i j hnt hn ht hi hj ci cj (Sm.tk ok 6).ok hx (by show s.steps + 6 ≤ _; omega))
  unfold undS
  clear h ok ci cj hn ht hi hj
  cases q : nbS s (n : Int) (t : Int)
  · rw [q] at B
    simp only [Bool.false_eq_true, if_false]
    clear q SW
    go_enter Tryz.func64, Tryz.ntmps64
    go_wp2_with fail
    refine B.out.mono ?_
    rintro e w1 ⟨rfl, hb⟩
    have HB := hid hb
    clear hb B
    go_wp2_with fail
    refine (hangT (t : Int) (n : Int) HB.out (by show s.steps + 6 ≤ _; omega)).mono ?_
    rintro e w2 ⟨rfl, h2⟩
    have H2 := hid h2
    clear h2 HB
    go_wp2
    go_ret
    exact ⟨rfl, H2.out⟩
  · rw [q] at B
    simp only [if_true]
    clear q
    go_enter Tryz.func64, Tryz.ntmps64
    go_wp2_with fail
    refine B.out.mono ?_
    rintro e w1 ⟨rfl, hb⟩
    have C := hid (SW.out _ hb)
    clear hb B SW
    go_wp2_with fail
    refine C.out.mono ?_
    rintro e w2 ⟨rfl, h2⟩
    have H2 := hid h2
    clear h2 C
    go_wp2_with fail
    refine (hangT (t : Int) (n : Int) H2.out (by rw [swB_steps]; show s.steps + 6 + 6 ≤ _; omega)).mono ?_
    rintro e w3 ⟨rfl, h3⟩
    have H3 := hid h3
    clear h3 H2
    go_wp2
    go_ret
    exact ⟨rfl, H3.out⟩
end
end Go.Proofs.YteibfnclillnnabGreat

/- Two trees of one Rank linked, as plain data and in memory; a node under the top. -/
namespace Go.Proofs.YteibfnclillnnabGreat
open Go.ChangeShapes Go.WideShapes Go.ChangeAt Go.RowKit
open Tr

/-- link, whichever wins: what it leaves -/
theorem link_view {s : St} {a b : Bn} (lt : Nat → Nat → Bool) (ok : Ok s) (ha : Vb (LS s) (hasS s) a ∧ Gb lt a) (hb : Vb (LS s) (hasS s) b ∧ Gb lt b) (hr : a.rk = b.rk) (hd : (a.cells ++ b.cells).Nodup) (ho : lt b.i a.i = false) :
    Vb (LS (linS (tk s 6) (a.n : Int) (b.n : Int))) (hasS (linS (tk s 6) (a.n : Int) (b.n : Int))) (lkB a b) ∧ Gb lt (lkB a b) ∧ (lkB a b).rk = a.rk + 1 ∧ leaf (lkB a b).k = false ∧ fstk (lkB a b).k ∧
      Sm s (linS (tk s 6) (a.n : Int) (b.n : Int)) ∧ (linS (tk s 6) (a.n : Int) (b.n : Int)).steps = s.steps + 12 ∧
      (∀ c, hasS (linS (tk s 6) (a.n : Int) (b.n : Int)) c 7 = hasS s c 7 ∧ hasS (linS (tk s 6) (a.n : Int) (b.n : Int)) c 8 = hasS s c 8) ∧
      ∀ c, c ≠ a.n → c ≠ b.n → ∀ j, hasS (linS (tk s 6) (a.n : Int) (b.n : Int)) c j = hasS s c j := by
  have V := lin_view (s := s) ha.1.ln hb.1.ln
  have hr' : rkf b.k = rkf a.k := by unfold Bn.rk at hr; exact hr.symm
  refine ⟨?_, lk_gb ha.2 hb.2 hr ho, ?_, rfl, hr', sm_lin ok _ _, ?_, fun c => ?_, fun c h1 h2 j => ?_⟩
  · rw [V.1, V.2]; exact lk_vb ha.1 hb.1 hr' hd
  · show rkf (nd b.n b.i b.k a.k) = rkf a.k + 1
    rw [rkf_link hr', ]
  · rw [lin_steps]; rfl
  · rw [V.2, lkN_key c 7 (by omega), lkN_key c 8 (by omega)]; exact ⟨rfl, rfl⟩
  · rw [V.2]; exact lkN_oth h1 h2 j
/-- hang: b comes to be the first child of a, whose Rank stays -/
def hgB (a b : Bn) : Bn := ⟨a.n, a.i, nd b.n b.i b.k a.k⟩
def hgN (f : Nat → Nat → Int) (a b : Nat) : Nat → Nat → Int := put (put (put f b 0 (a : Int)) b 3 (f a 1)) a 1 (b : Int)
theorem hg_vb {L : Nat → Bool} {f : Nat → Nat → Int} {a b : Bn} (ha : Vb L f a) (hb : Vb L f b) (hlf : leaf b.k = true) (hal : leaf a.k = false) (hd : (a.cells ++ b.cells).Nodup) : Vb L (hgN f a.n b.n) (hgB a b) := by
  rw [List.nodup_append] at hd
  obtain ⟨da, db, dab⟩ := hd
  have hab : a.n ≠ b.n := fun e => dab a.n (by simp [Bn.cells]) b.n (by simp [Bn.cells]) e
  have haib : a.i ≠ b.n := fun e => dab a.i (by simp [Bn.cells]) b.n (by simp [Bn.cells]) e
  have hani : a.n ≠ b.i := fun e => dab a.n (by simp [Bn.cells]) b.i (by simp [Bn.cells]) e
  simp only [Bn.cells, List.nodup_cons, List.mem_cons, not_or] at da db
  obtain ⟨⟨a1, a2⟩, a3, a4⟩ := da
  obtain ⟨⟨b1, b2⟩, b3, b4⟩ := db
  have oth : ∀ c j, c ≠ a.n → c ≠ b.n → hgN f a.n b.n c j = f c j := fun c j h1 h2 => by
    unfold hgN; rw [put_ne h1, put_ne h2, put_ne h2]
  have atA : ∀ j, j ≠ 1 → hgN f a.n b.n a.n j = f a.n j := fun j h1 => by
    unfold hgN; rw [put_nj h1, put_ne hab, put_ne hab]
  have atB : ∀ j, j ≠ 0 → j ≠ 3 → hgN f a.n b.n b.n j = f b.n j := fun j h0 h3 => by
    unfold hgN; rw [put_ne hab.symm, put_nj h3, put_nj h0]
  have ka : ∀ c ∈ a.k.cells, c ≠ a.n ∧ c ≠ b.n := fun c hc => ⟨fun e => a2 (e ▸ hc), fun e => dab c (by simp [Bn.cells, hc]) b.n (by simp [Bn.cells]) e⟩
  have kb : ∀ c ∈ b.k.cells, c ≠ a.n ∧ c ≠ b.n := fun c hc => ⟨fun e => dab a.n (by simp [Bn.cells]) c (by simp [Bn.cells, hc]) e.symm, fun e => b2 (e ▸ hc)⟩
  refine ⟨ha.ln, ha.li, ?_, ?_, ?_, ?_, ?_, ?_, ?_⟩
  · show hgN f a.n b.n a.n 0 = -1
    rw [atA 0 (by omega)]; exact ha.up
  · show hgN f a.n b.n a.n 1 = (b.n : Int)
    unfold hgN; rw [put_at]
  · show hgN f a.n b.n a.n 2 = -1
    rw [atA 2 (by omega)]; exact ha.left
  · show hgN f a.n b.n a.n 4 = ((rkf (nd b.n b.i b.k a.k) : Nat) : Int)
    rw [atA 4 (by omega), ha.rank, rkf_single hlf hal]
  · show hgN f a.n b.n a.n 6 = (a.i : Int)
    rw [atA 6 (by omega)]; exact ha.item
  · show hgN f a.n b.n a.i 9 = (a.n : Int)
    rw [oth a.i 9 (fun e => a1 e.symm) haib]; exact ha.node
  · refine ⟨⟨hb.ln, hb.li, ?_, ?_, ?_, ?_, ?_, ?_, ?_⟩, ?_, ?_⟩
    · unfold hgN; rw [put_ne hab.symm, put_nj (by omega), put_at]; rfl
    · rw [atB 1 (by omega) (by omega)]; exact hb.down
    · rw [atB 2 (by omega) (by omega)]; exact hb.left
    · show hgN f a.n b.n b.n 3 = a.k.root
      unfold hgN; rw [put_ne hab.symm, put_at]; exact ha.down
    · rw [atB 4 (by omega) (by omega)]; exact hb.rank
    · rw [atB 6 (by omega) (by omega)]; exact hb.item
    · show hgN f a.n b.n b.i 9 = (b.n : Int)
      rw [oth b.i 9 (fun e => hani e.symm) (fun e => b1 e.symm)]; exact hb.node
    · exact Vw.like hb.kids fun c hc => ⟨rfl, fun j => oth c j (kb c hc).1 (kb c hc).2⟩
    · exact Vw.like ha.kids fun c hc => ⟨rfl, fun j => oth c j (ka c hc).1 (ka c hc).2⟩
theorem hang_view {s : St} {a b : Nat} (ha : LS s a = true) (hb : LS s b = true) : LS (lin3 s (a : Int) (b : Int)) = LS s ∧ hasS (lin3 s (a : Int) (b : Int)) = put (put (put (hasS s) b 0 (a : Int)) b 3 (hasS s a 1)) a 1 (b : Int) := by
  have e1 : LS (lin1 s a b) = LS s := set_ls (s := s)
  have v1 : hasS (lin1 s a b) = put (hasS s) b 0 (a : Int) := set_has (s := s) (j := 0) hb (by omega)
  have g1 : getS (lin1 s a b) (a : Int) 1 = hasS s a 1 := by
    have := get_nat (s := lin1 s a b) (c := a) (j := 1) (by rw [e1]; exact ha) (by omega)
    rw [v1, put_nj (by omega)] at this
    exact this
  have e2 : LS (lin2 s a b) = LS s := (set_ls (s := tk (lin1 s a b) 1)).trans e1
  have v2 : hasS (lin2 s a b) = put (put (hasS s) b 0 (a : Int)) b 3 (hasS s a 1) := by
    unfold lin2
    rw [g1]
    have := set_has (s := tk (lin1 s a b) 1) (c := b) (j := 3) (v := hasS s a 1) (by show LS (lin1 s a b) b = true; rw [e1]; exact hb) (by omega)
    rw [show hasS (tk (lin1 s (a : Int) (b : Int)) 1) = put (hasS s) b 0 (a : Int) from v1] at this
    exact this
  have e3 : LS (lin3 s a b) = LS s := (set_ls (s := lin2 s a b)).trans e2
  refine ⟨e3, ?_⟩
  unfold lin3
  have := set_has (s := lin2 s a b) (c := a) (j := 1) (v := (b : Int)) (by rw [e2]; exact ha) (by omega)
  rw [v2] at this
  exact this
theorem hu_weaken {lt : Nat → Nat → Bool} (ht : Tot lt) {u v : Nat} (hv : lt u v = false) : ∀ {t : Tr}, Hu lt u t → Hu lt v t
  | lf, _ => trivial
  | nd _ j _ _, h => ⟨ht.le v u j hv h.1, h.2.1, hu_weaken ht hv h.2.2⟩
theorem hg_gb {lt : Nat → Nat → Bool} {a b : Bn} (ha : Gb lt a) (hlf : leaf b.k = true) (hal : leaf a.k = false) (hf : fstk a.k) (ho : lt b.i a.i = false) : Gb lt (hgB a b) :=
  ⟨⟨Or.inr ⟨trivial, hlf, hal, hf⟩, by rw [leaf_lf hlf]; trivial, ha.1⟩, ho, by rw [leaf_lf hlf]; trivial, ha.2⟩
theorem hgN_key {f : Nat → Nat → Int} {a b : Nat} (c j : Nat) (hj : 5 ≤ j) : hgN f a b c j = f c j := by
  unfold hgN; rw [put_nj (by omega), put_nj (by omega), put_nj (by omega)]
theorem hgN_oth {f : Nat → Nat → Int} {a b : Nat} {c : Nat} (h1 : c ≠ a) (h2 : c ≠ b) (j : Nat) : hgN f a b c j = f c j := by
  unfold hgN; rw [put_ne h1, put_ne h2, put_ne h2]
theorem sm_hang {s : St} (ok : Ok s) (a b : Int) : Sm s (lin3 s a b) := by
  have h1 := Sm.set ok b 0 a
  have h2 := h1.trans (Sm.tk h1.ok 1)
  have h3 := h2.trans (Sm.set h2.ok b 3 (getS (lin1 s a b) a 1))
  exact h3.trans (Sm.set h3.ok a 1 b)
/-- two nodes that are no part of each other's trees change their items -/
theorem sw_vb {L : Nat → Bool} {f g : Nat → Nat → Int} {a b : Bn} (ha : Vb L f a) (hb : Vb L f b) (hd : (a.cells ++ b.cells).Nodup) (hg : ∀ c j, (c ≠ a.n ∨ j ≠ 6) → (c ≠ b.n ∨ j ≠ 6) → (c ≠ a.i ∨ j ≠ 9) → (c ≠ b.i ∨ j ≠ 9) → g c j = f c j)
    (g1 : g a.n 6 = (b.i : Int)) (g2 : g b.i 9 = (a.n : Int)) : Vb L g ⟨a.n, b.i, a.k⟩ := by
  rw [List.nodup_append] at hd
  obtain ⟨da, db, dab⟩ := hd
  simp only [Bn.cells, List.nodup_cons, List.mem_cons, not_or] at da db
  obtain ⟨⟨a1, a2⟩, a3, a4⟩ := da
  have nb : a.n ≠ b.i := fun e => dab a.n (by simp [Bn.cells]) b.i (by simp [Bn.cells]) e
  have oth : ∀ j, j ≠ 6 → g a.n j = f a.n j := fun j hj => hg a.n j (Or.inr hj) (Or.inr hj) (Or.inl a1) (Or.inl nb)
  refine ⟨ha.ln, hb.li, by rw [oth 0 (by omega)]; exact ha.up, by rw [oth 1 (by omega)]; exact ha.down, by rw [oth 2 (by omega)]; exact ha.left, by rw [oth 4 (by omega)]; exact ha.rank, g1, g2, ?_⟩
  exact Vw.like ha.kids fun c hc => ⟨rfl, fun j => hg c j (Or.inl fun e => a2 (e ▸ hc)) (Or.inl fun e => dab c (by simp [Bn.cells, hc]) b.n (by simp [Bn.cells]) e) (Or.inl fun e => a3 (e ▸ hc)) (Or.inl fun e => dab c (by simp [Bn.cells, hc]) b.i (by simp [Bn.cells]) e)⟩
/-- what under leaves -/
def undB (lt : Nat → Nat → Bool) (a b : Bn) : Bn := if lt b.i a.i = true then hgB ⟨a.n, b.i, a.k⟩ ⟨b.n, a.i, lf⟩ else hgB a b
theorem und_view {s : St} {a b : Bn} (ok : Ok s) (ha : Vb (LS s) (hasS s) a ∧ Gb (befF (hasS s)) a) (hb : Vb (LS s) (hasS s) b) (hlf : b.k = lf) (hal : leaf a.k = false) (hf : fstk a.k) (hd : (a.cells ++ b.cells).Nodup) :
    Vb (LS (undS s a.n b.n b.i a.i)) (hasS (undS s a.n b.n b.i a.i)) (undB (befF (hasS s)) a b) ∧ Gb (befF (hasS s)) (undB (befF (hasS s)) a b) ∧ (undB (befF (hasS s)) a b).rk = a.rk ∧ (undB (befF (hasS s)) a b).n = a.n ∧
      (undB (befF (hasS s)) a b).cells.Perm (a.cells ++ b.cells) ∧ (undB (befF (hasS s)) a b).items.Perm (a.items ++ b.items) ∧ Sm s (undS s a.n b.n b.i a.i) ∧
      (∀ c, hasS (undS s a.n b.n b.i a.i) c 7 = hasS s c 7 ∧ hasS (undS s a.n b.n b.i a.i) c 8 = hasS s c 8) ∧
      ∀ c, c ∉ a.cells ++ b.cells → ∀ j, hasS (undS s a.n b.n b.i a.i) c j = hasS s c j := by
  obtain ⟨bn, bi, bk⟩ := b
  subst hlf
  have PC : ∀ x y : Nat, (hgB ⟨a.n, x, a.k⟩ ⟨bn, y, lf⟩).cells.Perm (a.n :: x :: a.k.cells ++ [bn, y]) := fun x y => by
    simp only [hgB, Bn.cells, Tr.cells, List.nil_append, List.cons_append]
    refine (List.perm_cons _).2 ((List.perm_cons _).2 ?_)
    exact (List.perm_append_comm (l₁ := [bn, y]) (l₂ := a.k.cells))
  have nb := vb_nb ok hb ha.1
  unfold undS undB
  rw [nb]
  cases q : befF (hasS s) bi a.i
  · simp only [Bool.false_eq_true, if_false]
    have V := hang_view (s := tk s 6) (a := a.n) (b := bn) ha.1.ln hb.ln
    refine ⟨?_, hg_gb ha.2 rfl hal hf q, rkf_single rfl hal, rfl, PC a.i bi, ?_, (Sm.tk ok 6).trans (sm_hang (Sm.tk ok 6).ok _ _), fun c => ?_, fun c hc j => ?_⟩
    · rw [V.1, V.2]; exact hg_vb ha.1 hb rfl hal hd
    · simp only [hgB, Bn.items, Tr.items, List.nil_append, List.cons_append]
      exact (List.perm_cons _).2 (List.perm_append_comm (l₁ := [bi]) (l₂ := a.k.items))
    · rw [V.2]; exact ⟨hgN_key (f := hasS s) c 7 (by omega), hgN_key (f := hasS s) c 8 (by omega)⟩
    · rw [V.2]
      exact hgN_oth (f := hasS s) (fun e => hc (by simp [Bn.cells, e])) (fun e => hc (by simp [Bn.cells, e])) j
  · simp only [if_true]
    have W := swB_view (s := tk s 6) (n := bn) (m := a.n) (i := bi) (j := a.i) (Sm.tk ok 6).ok hb.ln ha.1.ln hb.li ha.1.li
    obtain ⟨W1, W2⟩ := W
    have hd' := hd
    rw [List.nodup_append] at hd'
    obtain ⟨da, db, dab⟩ := hd'
    simp only [Bn.cells, List.nodup_cons, List.mem_cons, not_or] at da db
    have e1 : a.n ≠ bn := fun e => dab a.n (by simp [Bn.cells]) bn (by simp [Bn.cells]) e
    have e2 : a.n ≠ bi := fun e => dab a.n (by simp [Bn.cells]) bi (by simp [Bn.cells]) e
    have e3 : a.i ≠ bn := fun e => dab a.i (by simp [Bn.cells]) bn (by simp [Bn.cells]) e
    have e4 : a.i ≠ bi := fun e => dab a.i (by simp [Bn.cells]) bi (by simp [Bn.cells]) e
    have w2 : ∀ c j, hasS (swB (tk s 6) bn a.n bi a.i) c j = put (put (put (put (hasS s) bn 6 (a.i : Int)) a.i 9 (bn : Int)) a.n 6 (bi : Int)) bi 9 (a.n : Int) c j := fun c j => by rw [W2]; rfl
    have hg : ∀ c j, (c ≠ a.n ∨ j ≠ 6) → (c ≠ bn ∨ j ≠ 6) → (c ≠ a.i ∨ j ≠ 9) → (c ≠ bi ∨ j ≠ 9) → hasS (swB (tk s 6) bn a.n bi a.i) c j = hasS s c j := fun c j h1 h2 h3 h4 => by
      rw [w2, put_or h4, put_or h1, put_or h3, put_or h2]
    have v1 : Vb (LS (swB (tk s 6) bn a.n bi a.i)) (hasS (swB (tk s 6) bn a.n bi a.i)) ⟨a.n, bi, a.k⟩ := by
      rw [W1.ls]
      refine sw_vb ha.1 hb hd hg ?_ ?_
      · rw [w2, put_or (Or.inr (by decide)), put_at]
      · rw [w2, put_at]
    have v2 : Vb (LS (swB (tk s 6) bn a.n bi a.i)) (hasS (swB (tk s 6) bn a.n bi a.i)) ⟨bn, a.i, lf⟩ := by
      rw [W1.ls]
      refine sw_vb hb ha.1 (List.perm_append_comm.nodup_iff.1 hd) (fun c j h1 h2 h3 h4 => hg c j h2 h1 h4 h3) ?_ ?_
      · rw [w2, put_or (Or.inr (by decide)), put_or (Or.inl e1.symm), put_or (Or.inr (by decide)), put_at]
      · rw [w2, put_or (Or.inl e4), put_or (Or.inr (by decide)), put_at]
    have V := hang_view (s := swB (tk s 6) bn a.n bi a.i) (a := a.n) (b := bn) v1.ln v2.ln
    have hp : ((⟨a.n, bi, a.k⟩ : Bn).cells ++ (⟨bn, a.i, lf⟩ : Bn).cells).Perm (a.cells ++ (⟨bn, bi, lf⟩ : Bn).cells) := by
      simp only [Bn.cells, Tr.cells, List.cons_append]
      refine (List.perm_cons _).2 ?_
      have h1 : (bi :: (a.k.cells ++ [bn, a.i])).Perm (a.i :: (a.k.cells ++ [bn, bi])) := by
        have p1 : (a.k.cells ++ [bn, a.i]).Perm (a.i :: bn :: a.k.cells) := (List.perm_append_comm).trans (List.Perm.swap _ _ _)
        have p2 : (a.k.cells ++ [bn, bi]).Perm (bi :: bn :: a.k.cells) := (List.perm_append_comm).trans (List.Perm.swap _ _ _)
        exact ((List.perm_cons bi).2 p1).trans ((List.Perm.swap _ _ _).trans ((List.perm_cons a.i).2 p2.symm))
      exact h1
    refine ⟨?_, ?_, rkf_single rfl hal, rfl, (PC bi a.i).trans hp, ?_, ((Sm.tk ok 6).trans W1).trans (sm_hang W1.ok _ _), fun c => ?_, fun c hc j => ?_⟩
    · rw [V.1, V.2]; exact hg_vb v1 v2 rfl hal (hp.nodup_iff.2 hd)
    · refine hg_gb (a := ⟨a.n, bi, a.k⟩) ⟨ha.2.1, ?_⟩ rfl hal hf ((befF_tot _).one _ _ q)
      exact hu_weaken (befF_tot _) ((befF_tot _).one _ _ q) ha.2.2
    · simp only [hgB, Bn.items, Tr.items, List.nil_append, List.cons_append]
      have p1 : (a.k.items ++ [bi]).Perm (bi :: a.k.items) := List.perm_append_comm
      exact (List.Perm.swap _ _ _).trans ((List.perm_cons a.i).2 p1.symm)
    · rw [V.2]
      refine ⟨(hgN_key c 7 (by omega)).trans (hg c 7 (Or.inr (by decide)) (Or.inr (by decide)) (Or.inr (by decide)) (Or.inr (by decide))), (hgN_key c 8 (by omega)).trans (hg c 8 (Or.inr (by decide)) (Or.inr (by decide)) (Or.inr (by decide)) (Or.inr (by decide)))⟩
    · rw [V.2]
      refine (hgN_oth (fun e => hc (by simp [Bn.cells, e])) (fun e => hc (by simp [Bn.cells, e])) j).trans (hg c j (Or.inl fun e => hc (by simp [Bn.cells, e])) (Or.inl fun e => hc (by simp [Bn.cells, e])) (Or.inl fun e => hc (by simp [Bn.cells, e])) (Or.inl fun e => hc (by simp [Bn.cells, e])))
end Go.Proofs.YteibfnclillnnabGreat

/- The walk of push: a tree of Rank 0 comes into a heap. -/
namespace Go.Proofs.YteibfnclillnnabGreat
open Go.ChangeShapes Go.WideShapes Go.ChangeAt Go.RowKit
open Tr

theorem befF_eq {f g : Nat → Nat → Int} (h : ∀ c, f c 7 = g c 7 ∧ f c 8 = g c 8) : befF f = befF g := by
  funext c d
  unfold befF
  rw [(h c).1, (h c).2, (h d).1, (h d).2]
theorem Chn.like {f g : Nat → Nat → Int} : ∀ {l : List Bn} {last : Int}, Chn f last l → (∀ b ∈ l, g b.n 3 = f b.n 3) → Chn g last l
  | [], _, _, _ => trivial
  | b :: _, _, h, hf => ⟨h.1, (hf b (by simp)).trans h.2.1, Chn.like h.2.2 fun c hc => hf c (by simp [hc])⟩
theorem Chs.like {f g : Nat → Nat → Int} : ∀ {l : List Bn} {k : Nat} {last : Int}, Chs f k last l → (∀ b ∈ l, g b.n 3 = f b.n 3) → Chs g k last l
  | [], _, _, _, _ => trivial
  | b :: _, _, _, h, hf => ⟨h.1, (hf b (by simp)).trans h.2.1, Chs.like h.2.2 fun c hc => hf c (by simp [hc])⟩
theorem chn_len {f : Nat → Nat → Int} : ∀ {l : List Bn} {last : Int}, Chn f last l → (∀ b ∈ l, b.rk < 16) → last ≤ 15 → (l.length : Int) + last ≤ 15
  | [], _, _, _, hl => by simpa using hl
  | b :: r, last, h, hr, _ => by
    have h1 := hr b (by simp)
    have h2 := h.1
    have := chn_len h.2.2 (fun c hc => hr c (by simp [hc])) (by omega)
    simp only [List.length_cons]
    omega
/-- behind a first tree of Rank 0, where the first two are not alike -/
theorem chs_zero {f : Nat → Nat → Int} {ts : List Bn} (h : Chs f 0 (-1) ts) (ht : twn ts = -1) : Chn f (-1) ts ∧ Chs f 1 0 ts := by
  match ts, h, ht with
  | [], _, _ => exact ⟨trivial, trivial⟩
  | [x], h, _ => exact ⟨⟨by omega, h.2.1, trivial⟩, ⟨by omega, h.2.1, trivial⟩⟩
  | x :: y :: r, h, ht =>
    obtain ⟨h1, h2, h3, h4, h5⟩ := h
    have ne : x.rk ≠ y.rk := fun e => by
      have : twn (x :: y :: r) = (y.n : Int) := by show (if x.rk = y.rk then (y.n : Int) else -1) = _; rw [if_pos e]
      omega
    have h3' : (x.rk : Int) < y.rk := h3.resolve_right fun e => ne (by omega)
    have h5' := Chs.chn (by omega) h5
    exact ⟨⟨by omega, h2, h3', h4, h5'⟩, ⟨by omega, h2, Or.inl h3', h4, h5'.chs⟩⟩
theorem chs_one {f : Nat → Nat → Int} {k : Nat} : ∀ {r : List Bn}, Chn f (k : Int) r → Chs f 1 ((k + 1 : Nat) : Int) r
  | [], _ => trivial
  | z :: r, h => by
    have := h.1
    refine ⟨?_, h.2.1, h.2.2.chs⟩
    by_cases q : ((k + 1 : Nat) : Int) < z.rk
    · exact Or.inl q
    · exact Or.inr ⟨rfl, by omega⟩

/-- no two alike ahead: the new one is the first -/
theorem push0_view {s : St} {ts : List Bn} {b : Bn} (ok : Ok s) (ht : Bh (befF (hasS s)) s ts) (hb : Vb (LS s) (hasS s) b) (hlf : b.k = lf) (hd : (ts.flatMap Bn.cells ++ b.cells).Nodup) (h2 : twn ts = -1) :
    Left s (setS s (b.n : Int) 3 (headr ts)) (b :: ts) (ts.flatMap Bn.cells ++ b.cells) (ts.flatMap Bn.items ++ b.items) := by
  have m := Sm.set ok (b.n : Int) 3 (headr ts)
  have v : hasS (setS s (b.n : Int) 3 (headr ts)) = put (hasS s) b.n 3 (headr ts) := set_has (j := 3) hb.ln (by decide)
  have hd' := List.nodup_append.1 hd
  have hnb : ∀ c ∈ ts.flatMap Bn.cells, c ≠ b.n := fun c hc e => hd'.2.2 c hc b.n (by simp [Bn.cells]) e
  obtain ⟨c1, c2⟩ := chs_zero ht.ch h2
  have hbk : b.rk = 0 := by unfold Bn.rk; rw [hlf]; rfl
  refine ⟨⟨fun x hx => ?_, ⟨Or.inl (by omega), by rw [v, put_at], ?_⟩, ?_, fun x hx => ?_, ?_⟩, m, ?_, ?_, fun c => ?_, fun c hc j => ?_⟩
  · rcases List.mem_cons.1 hx with rfl | hx
    · refine ⟨hb.like (fun c hc => ⟨by rw [m.ls], fun j hj => by
        rw [v]
        by_cases e : c = x.n
        · subst e; exact put_or (Or.inr (hj rfl))
        · exact put_or (Or.inl e)⟩) (by rw [hlf]; simp [cells]), ?_, ?_⟩
      · rw [hlf]; trivial
      · rw [hlf]; trivial
    · have hin : ∀ c ∈ x.cells, c ∈ ts.flatMap Bn.cells := fun c hc => List.mem_flatMap.2 ⟨x, hx, hc⟩
      refine ⟨(ht.vb x hx).1.like (fun c hc => ⟨by rw [m.ls], fun j _ => by rw [v, put_ne (hnb c (hin c hc))]⟩) ?_, (ht.vb x hx).2⟩
      have := flat_nodup ht.nd x hx
      simp only [Bn.cells, List.nodup_cons, List.mem_cons, not_or] at this
      exact this.1.2
  · rw [hbk]
    have : ∀ x ∈ ts, hasS (setS s (b.n : Int) 3 (headr ts)) x.n 3 = hasS s x.n 3 := fun x hx => by rw [v, put_ne (hnb x.n (List.mem_flatMap.2 ⟨x, hx, by simp [Bn.cells]⟩))]
    exact c2.like this
  · exact (List.perm_append_comm (l₁ := ts.flatMap Bn.cells) (l₂ := b.cells)).nodup_iff.1 hd
  · rcases List.mem_cons.1 hx with rfl | hx
    · omega
    · exact ht.rk x hx
  · have := chn_len c1 ht.rk (by omega)
    simp only [List.length_cons]
    omega
  · exact List.perm_append_comm (l₁ := b.cells) (l₂ := ts.flatMap Bn.cells)
  · exact List.perm_append_comm (l₁ := b.items) (l₂ := ts.flatMap Bn.items)
  · rw [v, put_nj (by decide), put_nj (by decide)]; exact ⟨rfl, rfl⟩
  · rw [v, put_ne (fun e => hc (by rw [e]; simp [Bn.cells]))]
/-- the first two alike: with the new one they are one tree -/
theorem push1_view {s : St} {x y a b N : Bn} {r : List Bn} (ok : Ok s) (ht : Bh (befF (hasS s)) s (x :: y :: r)) (hN : Vb (LS s) (hasS s) N) (hlf : N.k = lf) (hd : ((x :: y :: r).flatMap Bn.cells ++ N.cells).Nodup)
    (hrk : x.rk = y.rk) (hab : (a = x ∧ b = y) ∨ (a = y ∧ b = x)) (ho : befF (hasS s) b.i a.i = false) (hsm : ((x :: y :: r).flatMap Bn.items ++ N.items).length ≤ 60000) :
    (LS (linS (tk s 6) (a.n : Int) (b.n : Int)) a.n = true ∧ Vb (LS (linS (tk s 6) (a.n : Int) (b.n : Int))) (hasS (linS (tk s 6) (a.n : Int) (b.n : Int))) (lkB a b) ∧ Vb (LS (linS (tk s 6) (a.n : Int) (b.n : Int))) (hasS (linS (tk s 6) (a.n : Int) (b.n : Int))) N ∧ Ok (linS (tk s 6) (a.n : Int) (b.n : Int)) ∧ N.n ≠ a.n) ∧
    ∃ T : Bn, T.n = a.n ∧ Left s (setS (undS (linS (tk s 6) (a.n : Int) (b.n : Int)) a.n N.n N.i a.i) (a.n : Int) 3 (headr r)) (T :: r) ((x :: y :: r).flatMap Bn.cells ++ N.cells) ((x :: y :: r).flatMap Bn.items ++ N.items) := by
  have pe : ∀ g : Bn → List Nat, ((x :: y :: r).flatMap g ++ g N).Perm (((g a ++ g b) ++ g N) ++ r.flatMap g) := fun g => by
    have h1 : (g x ++ g y).Perm (g a ++ g b) := by
      rcases hab with ⟨rfl, rfl⟩ | ⟨rfl, rfl⟩
      · exact List.Perm.refl _
      · exact List.perm_append_comm
    simp only [List.flatMap_cons]
    have h2 : (g x ++ (g y ++ r.flatMap g) ++ g N).Perm ((g x ++ g y) ++ (g N ++ r.flatMap g)) := by
      simp only [List.append_assoc]
      exact List.Perm.append_left _ (List.Perm.append_left _ List.perm_append_comm)
    refine h2.trans ?_
    rw [List.append_assoc (g a ++ g b)]
    exact List.Perm.append_right _ h1
  have nd0 := (pe Bn.cells).nodup_iff.1 hd
  obtain ⟨nd1, ndr, ndx⟩ := List.nodup_append.1 nd0
  obtain ⟨nd2, _, ndN⟩ := List.nodup_append.1 nd1
  have hx := ht.vb x (by simp)
  have hy := ht.vb y (by simp)
  have ha : Vb (LS s) (hasS s) a ∧ Gb (befF (hasS s)) a := by rcases hab with ⟨rfl, rfl⟩ | ⟨rfl, rfl⟩ <;> assumption
  have hb : Vb (LS s) (hasS s) b ∧ Gb (befF (hasS s)) b := by rcases hab with ⟨rfl, rfl⟩ | ⟨rfl, rfl⟩ <;> assumption
  have hr : a.rk = b.rk := by rcases hab with ⟨rfl, rfl⟩ | ⟨rfl, rfl⟩ <;> omega
  have har : a.rk = y.rk := by rcases hab with ⟨rfl, rfl⟩ | ⟨rfl, rfl⟩ <;> omega
  obtain ⟨v1, v2, v3, v4, v5, v6, v7, v8, v9⟩ := link_view (befF (hasS s)) ok ha hb hr nd2 ho
  have eb := befF_eq v8
  generalize linS (tk s 6) (a.n : Int) (b.n : Int) = s2 at *
  have Nn : ∀ c ∈ N.cells, c ≠ a.n ∧ c ≠ b.n := fun c hc => ⟨fun e => ndN a.n (by simp [Bn.cells]) c hc e.symm, fun e => ndN b.n (by simp [Bn.cells]) c hc e.symm⟩
  have vN : Vb (LS s2) (hasS s2) N := hN.like (fun c hc => ⟨by rw [v6.ls], fun j _ => v9 c (Nn c hc).1 (Nn c hc).2 j⟩) (by rw [hlf]; simp [cells])
  have nda : ((lkB a b).cells ++ N.cells).Nodup := ((lk_cells a b).append_right _).nodup_iff.2 nd1
  have U := und_view (s := s2) (a := lkB a b) (b := N) v6.ok ⟨v1, by rw [eb]; exact v2⟩ vN hlf v4 v5 nda
  rw [eb] at U
  obtain ⟨u1, u2, u3, u4, u5, u6, u7, u8, u9⟩ := U
  refine ⟨⟨v1.ln, v1, vN, v6.ok, (Nn N.n (by simp [Bn.cells])).1⟩, undB (befF (hasS s)) (lkB a b) N, u4, ?_⟩
  have eT : (undB (befF (hasS s)) (lkB a b) N).n = a.n := u4
  have eu : undS s2 (lkB a b).n N.n N.i (lkB a b).i = undS s2 a.n N.n N.i a.i := rfl
  rw [eu] at u1 u7 u8 u9
  generalize undB (befF (hasS s)) (lkB a b) N = T at *
  generalize undS s2 a.n N.n N.i a.i = s3 at *
  have m4 := Sm.set u7.ok (a.n : Int) 3 (headr r)
  have w4 : hasS (setS s3 (a.n : Int) 3 (headr r)) = put (hasS s3) a.n 3 (headr r) := set_has (j := 3) (by rw [u7.ls]; exact v1.ln) (by decide)
  have cT : T.cells.Perm ((a.cells ++ b.cells) ++ N.cells) := u5.trans ((lk_cells a b).append_right _)
  have iT : T.items.Perm ((a.items ++ b.items) ++ N.items) := u6.trans ((lk_items a b).append_right _)
  have rin : ∀ c ∈ r.flatMap Bn.cells, c ∉ (a.cells ++ b.cells) ++ N.cells := fun c hc h => ndx c h c hc rfl
  have old : ∀ c, c ∉ (a.cells ++ b.cells) ++ N.cells → ∀ j, hasS (setS s3 (a.n : Int) 3 (headr r)) c j = hasS s c j := fun c hc j => by
    have h1 : c ≠ a.n := fun e => hc (by simp [Bn.cells, e])
    have h2 : c ≠ b.n := fun e => hc (by simp [Bn.cells, e])
    rw [w4, put_ne h1, u9 c (fun e => hc (((lk_cells a b).append_right _).mem_iff.1 e)) j, v9 c h1 h2 j]
  have sm := (v6.trans u7).trans m4
  have Tnd : T.cells.Nodup := cT.nodup_iff.2 nd1
  have hTrk : T.rk = y.rk + 1 := by rw [u3, v3, har]
  have all : ((T :: r).flatMap Bn.cells).Perm ((x :: y :: r).flatMap Bn.cells ++ N.cells) := by
    simp only [List.flatMap_cons]
    exact (cT.append_right _).trans ((pe Bn.cells).symm)
  have alli : ((T :: r).flatMap Bn.items).Perm ((x :: y :: r).flatMap Bn.items ++ N.items) := by
    simp only [List.flatMap_cons]
    exact (iT.append_right _).trans ((pe Bn.items).symm)
  have chy : Chn (hasS s) (y.rk : Int) r := Chs.chn (by omega) ht.ch.2.2.2.2
  have hln := ht.ln
  simp only [List.length_cons] at hln
  refine ⟨⟨fun z hz => ?_, ⟨Or.inl (by omega), by rw [w4, eT, put_at], ?_⟩, all.nodup_iff.2 hd, fun z hz => ?_, ?_⟩, sm, all, alli, fun c => ?_, fun c hc j => ?_⟩
  · rcases List.mem_cons.1 hz with rfl | hz
    · simp only [Bn.cells, List.nodup_cons, List.mem_cons, not_or] at Tnd
      refine ⟨u1.like (fun c hc => ⟨by rw [m4.ls], fun j hj => ?_⟩) Tnd.1.2, u2⟩
      rw [w4]
      by_cases e : c = a.n
      · exact put_or (Or.inr (hj (by rw [e, eT])))
      · exact put_or (Or.inl e)
    · have hin : ∀ c ∈ z.cells, c ∈ r.flatMap Bn.cells := fun c hc => List.mem_flatMap.2 ⟨z, hz, hc⟩
      have hzz := ht.vb z (by simp [hz])
      have n1 := flat_nodup ndr z hz
      simp only [Bn.cells, List.nodup_cons, List.mem_cons, not_or] at n1
      exact ⟨hzz.1.like (fun c hc => ⟨by rw [sm.ls], fun j _ => old c (rin c (hin c hc)) j⟩) n1.1.2, hzz.2⟩
  · rw [hTrk]
    refine (chs_one chy).like fun z hz => old z.n (rin z.n (List.mem_flatMap.2 ⟨z, hz, by simp [Bn.cells]⟩)) 3
  · rcases List.mem_cons.1 hz with rfl | hz
    · have h1 := bn_size u2
      have h2 := alli.length_eq
      simp only [List.flatMap_cons, List.length_append] at h2 hsm
      by_cases q : z.rk < 16
      · exact q
      · have h3 : 2 ^ 16 ≤ 2 ^ z.rk := Nat.pow_le_pow_right (by omega) (by omega)
        have : (2 : Nat) ^ 16 = 65536 := by decide
        omega
    · exact ht.rk z (by simp [hz])
  · simp only [List.length_cons]; omega
  · rw [w4, put_nj (by decide), put_nj (by decide), (u8 c).1, (u8 c).2]; exact v8 c
  · exact old c (fun h => hc ((pe Bn.cells).mem_iff.2 (List.mem_append_left _ h))) j
end Go.Proofs.YteibfnclillnnabGreat

/- The walk of push. -/
namespace Go.Proofs.YteibfnclillnnabGreat
open Go.ChangeShapes Go.WideShapes Go.ChangeAt Go.RowKit
open Tr

theorem Left.tk {s0 s : St} {ts : List Bn} {cs its : List Nat} {k : Nat} (h : Left (tk s0 k) s ts cs its) (ok : Ok s0) : Left s0 s ts cs its :=
  ⟨h.bh, (Sm.tk ok k).trans h.sm, h.cells, h.items, h.key, h.oth⟩
theorem Bh.tk {lt : Nat → Nat → Bool} {s : St} {ts : List Bn} (h : Bh lt s ts) (k : Nat) : Bh lt (tk s k) ts := ⟨h.vb, h.ch, h.nd, h.rk, h.ln⟩

section
variable {F : Nat → Prop} {w0 w w' : World} {pa pm : Nat} {s : St}
set_option maxHeartbeats 2000000 in
theorem spushT (ts : List Bn) (N : Bn) (ht : Bh (befF (hasS s)) s ts) (hN : Vb (LS s) (hasS s) N) (hlf : N.k = lf) (hd : (ts.flatMap Bn.cells ++ N.cells).Nodup) (hsm : (ts.flatMap Bn.items ++ N.items).length ≤ 60000) (ok : Ok s)
    (h : Ex F w0 w pa pm s) (hs : s.steps ≤ 99979000) :
    Calls Tryz.prog 43 #[.pointer (some ⟨pa, 0, none⟩), .int .i64 (headr ts), .int .i64 (twn ts), .int .i64 (N.n : Int)] w fun e w' =>
      ∃ (vs : List Bn) (s' : St), e = .returned (.int .i64 (headr vs)) ∧ Left s s' vs (ts.flatMap Bn.cells ++ N.cells) (ts.flatMap Bn.items ++ N.items) ∧ Ex F w0 w' pa pm s' ∧ s.steps ≤ s'.steps ∧ s'.steps ≤ s.steps + 30 := by
  by_cases q : twn ts = -1
  · have V := hid (push0_view ok ht hN hlf hd q)
    rw [q]
    have S := hid (setT (N.n : Int) 3 (headr ts) h (by omega))
    clear ht hN hlf hd hsm ok h q
    generalize headr ts = r0 at *
    go_enter Tryz.func43, Tryz.ntmps43
    go_wp2_with fail
    refine S.out.mono ?_
    rintro e w1 ⟨rfl, h1⟩
    have H1 := hid h1
    clear h1 S
    go_wp2
    go_ret
    exact ⟨N :: ts, _, rfl, V.out, H1.out, by rw [set_steps]; omega, by rw [set_steps]; omega⟩
  · obtain ⟨x, y, r, rfl, hrk⟩ : ∃ x y r, ts = x :: y :: r ∧ x.rk = y.rk := by
      match ts, q with
      | [], q => exact absurd rfl q
      | [x], q => exact absurd rfl q
      | x :: y :: r, q =>
        refine ⟨x, y, r, rfl, ?_⟩
        by_cases e : x.rk = y.rk
        · exact e
        · exact absurd (show (if x.rk = y.rk then (y.n : Int) else -1) = -1 by rw [if_neg e]) q
    have hx := ht.vb x (by simp)
    have hy := ht.vb y (by simp)
    have C := hid (cellT (y.n : Int) 3 h (by omega))
    have hcy : cellS s (y.n : Int) 3 = headr r := by
      have c2 := ht.ch.2.2.2.1
      cases r with
      | nil => exact cell_neg (j := 3) hy.1.ln (by omega) c2
      | cons z r' => exact cell_nat (j := 3) ok hy.1.ln (by omega) c2 (ht.vb z (by simp)).1.ln
    rw [hcy] at C
    have e2 : twn (x :: y :: r) = (y.n : Int) := by show (if x.rk = y.rk then (y.n : Int) else -1) = _; rw [if_pos hrk]
    rw [e2, headr_cons]
    have ok1 := (Sm.tk ok 1).ok
    have nb := vb_nb (s := tk s 1) ok1 hy.1 hx.1
    have g4 : ∀ {a b : Nat}, LS s a = true → LS s b = true → getS (lin3 (tk (tk s 1) 6) (a : Int) (b : Int)) (a : Int) 4 = hasS s a 4 := fun ha hb => lin_get4 (s := tk s 1) ha hb
    have r1 := ht.rk x (by simp)
    have r2 := ht.rk y (by simp)
    have f1 : hasS s x.n 4 = (x.rk : Int) := hx.1.rank
    have f2 : hasS s y.n 4 = (y.rk : Int) := hy.1.rank
    have LK := hid (fun (wx : World) (hw : Ex F w0 wx pa pm (tk s 1)) => blinkT (s := tk s 1) (x.n : Int) (y.n : Int) ⟨by rw [g4 hx.1.ln hy.1.ln, f1]; omega, by rw [g4 hy.1.ln hx.1.ln, f2]; omega⟩ hw (by show s.steps + 1 ≤ _; omega))
    have V : Hid (∃ a b : Bn, (if nbS (tk s 1) (y.n : Int) (x.n : Int) = true then (y.n : Int) else (x.n : Int)) = (a.n : Int) ∧ (if nbS (tk s 1) (y.n : Int) (x.n : Int) = true then linS (tk (tk s 1) 6) (y.n : Int) (x.n : Int) else linS (tk (tk s 1) 6) (x.n : Int) (y.n : Int)) = linS (tk (tk s 1) 6) (a.n : Int) (b.n : Int) ∧
        (LS (linS (tk (tk s 1) 6) (a.n : Int) (b.n : Int)) a.n = true ∧ Vb (LS (linS (tk (tk s 1) 6) (a.n : Int) (b.n : Int))) (hasS (linS (tk (tk s 1) 6) (a.n : Int) (b.n : Int))) (lkB a b) ∧ Vb (LS (linS (tk (tk s 1) 6) (a.n : Int) (b.n : Int))) (hasS (linS (tk (tk s 1) 6) (a.n : Int) (b.n : Int))) N ∧ Ok (linS (tk (tk s 1) 6) (a.n : Int) (b.n : Int)) ∧ N.n ≠ a.n) ∧
        ∃ T : Bn, T.n = a.n ∧ Left (tk s 1) (setS (undS (linS (tk (tk s 1) 6) (a.n : Int) (b.n : Int)) a.n N.n N.i a.i) (a.n : Int) 3 (headr r)) (T :: r) ((x :: y :: r).flatMap Bn.cells ++ N.cells) ((x :: y :: r).flatMap Bn.items ++ N.items)) := hid (by
      rw [nb]
      cases z : befF (hasS (tk s 1)) y.i x.i
      · simp only [Bool.false_eq_true, if_false]
        have := push1_view (s := tk s 1) (a := x) (b := y) ok1 (ht.tk 1) hN hlf hd hrk (Or.inl ⟨rfl, rfl⟩) z hsm
        exact ⟨x, y, rfl, rfl, this.1, this.2⟩
      · simp only [if_true]
        have := push1_view (s := tk s 1) (a := y) (b := x) ok1 (ht.tk 1) hN hlf hd hrk (Or.inr ⟨rfl, rfl⟩) ((befF_tot _).one _ _ z) hsm
        exact ⟨y, x, rfl, rfl, this.1, this.2⟩)
    have OK := hid ok
    clear ht hN hlf hd hsm ok h q hx hy hcy e2 ok1 nb g4 r1 r2 f1 f2
    obtain ⟨a, b, e1, e2, ⟨k1, k2, k3, k4, k5⟩, T, eT, hL⟩ := V.out
    rw [e1, e2] at LK
    have HL := hid hL
    have ET := hid eT
    clear V hL e1 e2 eT
    have T2 : Hid ((linS (tk (tk s 1) 6) (a.n : Int) (b.n : Int)).steps = s.steps + 13) := hid (by rw [lin_steps]; show s.steps + 1 + 6 + 6 = _; omega)
    obtain ⟨s2, hs2⟩ : ∃ s2, s2 = linS (tk (tk s 1) 6) (a.n : Int) (b.n : Int) := ⟨_, rfl⟩
    rw [← hs2] at LK k1 k2 k3 k4 HL T2
    clear hs2
    have UN := hid (fun (wx : World) (hw : Ex F w0 wx pa pm s2) => underT (s := s2) a.n N.n N.i a.i k5 k3.ln k1 k3.li k2.li (vb_item k4 k3) (vb_item (b := lkB a b) k4 k2) k4 hw (by rw [T2.out]; omega))
    have T3 : Hid (s2.steps + 10 ≤ (undS s2 a.n N.n N.i a.i).steps ∧ (undS s2 a.n N.n N.i a.i).steps ≤ s2.steps + 16) := hid (und_steps _ _ _ _ _)
    clear k1 k2 k3 k4 k5
    obtain ⟨s3, hs3⟩ : ∃ s3, s3 = undS s2 a.n N.n N.i a.i := ⟨_, rfl⟩
    rw [← hs3] at UN HL T3
    clear hs3
    generalize headr r = r1 at *
    have ne : ((y.n : Int) != -1) = true := by simp
    go_enter Tryz.func43, Tryz.ntmps43
    go_wp2_with fail
    refine C.out.mono ?_
    rintro e w1 ⟨rfl, h1⟩
    have L1 := hid (LK.out _ h1)
    clear h1 C LK
    go_wp2_with fail
    refine L1.out.mono ?_
    rintro e w2 ⟨rfl, h2⟩
    have U1 := hid (UN.out _ h2)
    clear h2 L1 UN
    go_wp2_with fail
    refine U1.out.mono ?_
    rintro e w3 ⟨rfl, h3⟩
    have S3 := hid (setT (a.n : Int) 3 r1 h3 (by have := T3.out; have := T2.out; omega))
    clear h3 U1
    go_wp2_with fail
    refine S3.out.mono ?_
    rintro e w4 ⟨rfl, h4⟩
    have H4 := hid h4
    clear h4 S3
    go_wp2
    go_ret
    exact ⟨T :: r, _, by rw [headr_cons, ET.out]; rfl, HL.out.tk OK.out, H4.out, by rw [set_steps]; have := T3.out; have := T2.out; omega, by rw [set_steps]; have := T3.out; have := T2.out; omega⟩
end
end Go.Proofs.YteibfnclillnnabGreat

/- One more tree of no children behind what a call has left. -/
namespace Go.Proofs.YteibfnclillnnabGreat
open Go.ChangeShapes Go.WideShapes Go.ChangeAt Go.RowKit
open Tr

theorem Left.more {s0 s1 s2 : St} {vs us : List Bn} {N : Bn} {cs its : List Nat} (l1 : Left s0 s1 vs cs its) (l2 : Left s1 s2 us (vs.flatMap Bn.cells ++ N.cells) (vs.flatMap Bn.items ++ N.items)) : Left s0 s2 us (cs ++ N.cells) (its ++ N.items) := by
  have e : befF (hasS s1) = befF (hasS s0) := befF_eq l1.key
  refine ⟨by rw [← e]; exact l2.bh, l1.sm.trans l2.sm, l2.cells.trans (l1.cells.append_right _), l2.items.trans (l1.items.append_right _), fun c => ⟨(l2.key c).1.trans (l1.key c).1, (l2.key c).2.trans (l1.key c).2⟩, fun c hc j => ?_⟩
  simp only [List.mem_append, not_or] at hc
  exact (l2.oth c (fun h => (List.mem_append.1 h).elim (fun h => hc.1 (l1.cells.mem_iff.1 h)) hc.2) j).trans (l1.oth c hc.1 j)
/-- a tree that the call had nothing to do with lies as it lay -/
theorem Left.keeps {s0 s1 : St} {vs : List Bn} {N : Bn} {cs its : List Nat} (l : Left s0 s1 vs cs its) (hN : Vb (LS s0) (hasS s0) N) (hn : N.n ∉ N.k.cells) (hd : ∀ c ∈ N.cells, c ∉ cs) : Vb (LS s1) (hasS s1) N :=
  hN.like (fun c hc => ⟨by rw [l.sm.ls], fun j _ => l.oth c (hd c hc) j⟩) hn
end Go.Proofs.YteibfnclillnnabGreat

/- The walk of Push, where there is room. -/
namespace Go.Proofs.YteibfnclillnnabGreat
open Go.ChangeShapes Go.WideShapes Go.ChangeAt Go.RowKit
open Tr

theorem Hu.turn {lt lt' : Nat → Nat → Bool} {n : Nat} (h : ∀ a b, a ≠ n → b ≠ n → lt' a b = lt a b) : ∀ {u : Nat} {k : Tr}, u ≠ n → n ∉ k.items → Hu lt u k → Hu lt' u k
  | _, lf, _, _, _ => trivial
  | u, nd m i k r, hu, hk, hh => by
    simp only [items, List.mem_cons, List.mem_append, not_or] at hk
    exact ⟨by rw [h i u (fun e => hk.1 e.symm) hu]; exact hh.1, Hu.turn h (fun e => hk.1 e.symm) hk.2.1 hh.2.1, Hu.turn h hu hk.2.2 hh.2.2⟩
theorem puB_steps (s : St) (i : Int) : (puB s i).steps = s.steps + 4 := by unfold puB; rw [set_steps, set_steps, take_steps]; rfl
theorem tr_items {c : Nat} : ∀ {t : Tr}, c ∈ t.items → c ∈ t.cells
  | lf, h => by simp [items] at h
  | nd m j l r, h => by
    simp only [items, cells, List.mem_cons, List.mem_append] at h ⊢
    rcases h with h | h | h
    · exact Or.inr (Or.inl h)
    · exact Or.inr (Or.inr (Or.inl (tr_items h)))
    · exact Or.inr (Or.inr (Or.inr (tr_items h)))
theorem bn_items {b : Bn} {c : Nat} (h : c ∈ b.items) : c ∈ b.cells := by
  simp only [Bn.items, Bn.cells, List.mem_cons] at h ⊢
  rcases h with h | h
  · exact Or.inr (Or.inl h)
  · exact Or.inr (Or.inr (tr_items h))

section
variable {F : Nat → Prop} {w w' : World} {pa pm : Nat} {s : St}
set_option maxHeartbeats 2000000 in
theorem bpushT (ts : List Bn) (i : Nat) (ht : Bh (befF (hasS s)) s ts) (li : LS s i = true) (h9 : cellS s (i : Int) 9 = -1) (hi : i ∉ ts.flatMap Bn.cells) (hsm : (ts.flatMap Bn.items).length ≤ 59999) (hx : 0 ≤ nextS s) (ok : Ok s)
    (h : IsA w F pa pm s) (hs : s.steps ≤ 99970000) :
    Calls Tryz.prog 17 #[.pointer (some ⟨pa, 0, none⟩), .int .i64 (headr ts), .int .i64 (i : Int)] w fun e w' =>
      ∃ (vs : List Bn) (n k : Nat) (s' : St), e = .returned (.tuple #[.int .i64 (headr vs), .bool true]) ∧ nextS s = (n : Int) ∧ k ≤ 60 ∧ Left (puB (tk s k) (i : Int)) s' vs ((ts ++ [(⟨n, i, lf⟩ : Bn)]).flatMap Bn.cells) ((ts ++ [(⟨n, i, lf⟩ : Bn)]).flatMap Bn.items) ∧ Aft F w w' pa pm s' ∧ s.steps ≤ s'.steps ∧ s'.steps ≤ s.steps + 400 := by
  have T := hid (frontT ts (fun b hb => (ht.vb b hb).1) ht.ch ok (Ex.start h) (by omega))
  have HT := hid ht
  have OK := hid ok
  have HFL := hid h.lt
  have HSM := hid hsm
  have LI := hid li
  have H9 := hid h9
  have HI := hid hi
  have HX := hid hx
  clear ht li h9 hi hsm hx ok h
  obtain ⟨r0, hr0⟩ : ∃ r0, r0 = headr ts := ⟨_, rfl⟩
  obtain ⟨r1, hr1⟩ : ∃ r1, r1 = twn ts := ⟨_, rfl⟩
  have R0 := hid hr0
  have R1 := hid hr1
  rw [← hr0, ← hr1] at T
  rw [← hr0]
  clear hr0 hr1
  go_enter Tryz.func17, Tryz.ntmps17
  go_wp2_with fail
  refine T.out.mono ?_
  rintro e w1 ⟨k, rfl, hk1, a1⟩
  have Q1 := hid a1.kept
  replace a1 := a1.is
  obtain ⟨n, e1, u2, u3, u4, u5, u6, u7, u8, u9, u10, u11, u12, u13⟩ := bpu_view (s := tk s k) (ts := ts) (i := i) (befF (hasS (tk s k))) (Sm.tk OK.out k).ok LI.out HI.out (fun b hb => (HT.out.vb b hb).1) HT.out.nd HX.out
  have NN := hid (nnewT (s := tk s k) (i : Int) LI.out H9.out HX.out (by rw [e1]; exact u3) u4 (ls_cl (Sm.tk OK.out k).ok LI.out) (by omega) (Aft.start a1) (by show s.steps + k ≤ _; omega))
  rw [e1] at NN
  have E1 := hid e1
  have U3 := hid u2
  have U5 := hid u5
  have U6 := hid u6
  have U7 := hid u7
  have U8 := hid u8
  have U9 := hid u9
  have U12 := hid u12
  have U13 := hid u13
  clear e1 u2 u3 u4 u5 u6 u7 u8 u9 u10 u11 u12 u13 a1 T
  go_wp2_with fail
  refine NN.out.mono ?_
  rintro e w2 ⟨rfl, h2⟩
  have A2 := hid (show Aft F w1 w2 pa pm (puB (tk s k) (i : Int)) from by unfold puB; rw [E1.out]; exact h2)
  have hz1 : w.heap.size ≤ w1.heap.size := Q1.out.size
  have hz2 : w1.heap.size ≤ w2.heap.size := h2.kept.size
  clear h2 NN
  have ST := hid (show (puB (tk s k) (i : Int)).steps = s.steps + k + 4 from puB_steps _ _)
  have KEY : ∀ a b, a ≠ n → b ≠ n → befF (hasS (puB (tk s k) (i : Int))) a b = befF (hasS s) a b := fun a b ha hb => by
    unfold befF
    rw [U13.out a 7 ha (Or.inr (by decide)), U13.out a 8 ha (Or.inr (by decide)), U13.out b 7 hb (Or.inr (by decide)), U13.out b 8 hb (Or.inr (by decide))]
    rfl
  have BH : Bh (befF (hasS (puB (tk s k) (i : Int)))) (puB (tk s k) (i : Int)) ts := by
    refine ⟨fun b hb => ?_, HT.out.ch.like fun b hb => ?_, HT.out.nd, HT.out.rk, HT.out.ln⟩
    · have hnb : n ∉ b.items := fun e => U6.out (List.mem_flatMap.2 ⟨b, hb, bn_items e⟩)
      simp only [Bn.items, List.mem_cons, not_or] at hnb
      exact ⟨U8.out b hb, (HT.out.vb b hb).2.1, Hu.turn KEY (fun e => hnb.1 e.symm) hnb.2 (HT.out.vb b hb).2.2⟩
    · exact U13.out b.n 3 (fun e => U6.out (List.mem_flatMap.2 ⟨b, hb, by simp [Bn.cells, e]⟩)) (Or.inr (by decide))
  have ND : (ts.flatMap Bn.cells ++ (⟨n, i, lf⟩ : Bn).cells).Nodup := by
    rw [List.nodup_append]
    refine ⟨HT.out.nd, by simp [Bn.cells, Tr.cells, U5.out], fun a ha b hb e => ?_⟩
    subst e
    simp [Bn.cells, Tr.cells] at hb
    rcases hb with rfl | rfl
    · exact U6.out ha
    · exact HI.out ha
  have P := hid (spushT (F := Grow F w1 w2) (s := puB (tk s k) (i : Int)) ts ⟨n, i, lf⟩ BH U9.out rfl ND (by rw [List.length_append]; have := HSM.out; have h1 : (Bn.items ⟨n, i, lf⟩).length = 1 := rfl; omega) U7.out (Ex.start A2.out.is) (by rw [ST.out]; omega))
  rw [← R0.out, ← R1.out] at P
  clear KEY BH ND U8 U9 U13
  go_wp2_with fail
  refine P.out.mono ?_
  rintro e w5 ⟨vs, s', rfl, l5, a5, st1, st2⟩
  have L5 := hid (show Left (puB (tk s k) (i : Int)) s' vs ((ts ++ [(⟨n, i, lf⟩ : Bn)]).flatMap Bn.cells) ((ts ++ [(⟨n, i, lf⟩ : Bn)]).flatMap Bn.items) from by
    rw [List.flatMap_append, List.flatMap_append, List.flatMap_singleton, List.flatMap_singleton]; exact l5)
  have A5 := hid (show Aft F w w5 pa pm s' from by
    have hz5 : w2.heap.size ≤ w5.heap.size := a5.kept.size
    have K2 := Q1.out.trans' A2.out.kept
    refine ⟨a5.is.widen (fun j hj => hj.imp id fun q => ⟨by omega, by omega⟩) (Grow.lt HFL.out (Nat.le_trans K2.size a5.kept.size)), K2.trans (a5.kept.mono fun j hj => hj.imp id fun q => ⟨by omega, by omega⟩), HFL.out⟩)
  have S2 := hid st2
  have S1 := hid st1
  clear l5 a5 st1 st2 P
  go_wp2
  go_ret2
  exact ⟨vs, n, k, s', rfl, E1.out, by omega, L5.out, A5.out, by have := S1.out; rw [ST.out] at this; omega, by have := S2.out; rw [ST.out] at this; omega⟩
end
end Go.Proofs.YteibfnclillnnabGreat
