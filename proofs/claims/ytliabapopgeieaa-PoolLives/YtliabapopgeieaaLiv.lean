/- The walk of PoolLives. -/
import Derived.Test.YtliabapopgeieaaLift
import Derived.Test.YtliabapopgeieaaHdE
import Derived.Test.YtliabapopgeieaaLv
import Derived.Deep.DeepCutAuto
namespace Go.Proofs.Ytliabapopgeieaa
open Go.ChangeShapes Go.WideShapes Go.ChangeAt Go.RowKit

theorem HoldE.grown {w0 w w' : World} {F : Nat → Prop} {pa : Nat} {s : St (Int × Int)} {e : TypeId} {sz n : Nat} {v : Value} {xs : List Value} (h : HoldE w0 w F pa s) (m : Mine w0 w F e sz v n xs) (hg : w.grownBy w' v.ownBlock) : HoldE w0 w' F pa s :=
  h.other (kept_of_grown hg) (fun k hk => (m.out k hk).2) fun k hk q => (m.out k q).1 hk

def bl1 (b : Bool) : List Value := [.bool b]
def in64 (v : Int) : List Value := [.int .i64 v]
theorem bl1_len : ∀ b, (bl1 b).length = 1 := fun _ => rfl
theorem in64_len : ∀ b, (in64 b).length = 1 := fun _ => rfl
theorem bl1_one : ∀ b, ∀ v ∈ bl1 b, v.oneCell' = true := fun b v h => by simp [bl1] at h; subst h; rfl
theorem in64_one : ∀ b, ∀ v ∈ in64 b, v.oneCell' = true := fun b v h => by simp [in64] at h; subst h; rfl
theorem info4 : (Try.prog.info? 4).map (fun i => (i.zero, i.size, i.bytes)) = some (some (.bool false), 1, 1) := by kernel_rfl
theorem info2 : (Try.prog.info? 2).map (fun i => (i.zero, i.size, i.bytes)) = some (some (.int .i64 0), 1, 8) := by kernel_rfl

/-- what a law's own list holds, cell by cell -/
theorem mine1_get {α : Type} {f : α → List Value} {w0 w : World} {F : Nat → Prop} {e : TypeId} {v : Value} {l : List α} (hf : ∀ x, (f x).length = 1) (h : Mine w0 w F e 1 v l.length (row f l)) {i : Nat} {x : α} (hx : l[i]? = some x) :
    ∃ g cap, v = .slice (some ⟨g, 0, none⟩) l.length cap ∧ g < w.heap.size ∧ (∀ j, w.frozen? ⟨g, j, none⟩ = false) ∧ w.cell? ⟨g, i, none⟩ = (f x)[0]? := by
  have hi : i < l.length := (List.getElem?_eq_some_iff.1 hx).1
  obtain ⟨g, cap, rfl, _, hg⟩ := h.own.form (by omega)
  refine ⟨g, cap, rfl, hg, fun j => h.own.frozenAt j, ?_⟩
  rw [h.own.cellAt i (by omega)]
  have := row_get hf l i 0 x hx (by decide)
  simpa using this
theorem mine2_get {w0 w : World} {F : Nat → Prop} {e : TypeId} {v : Value} {l : List (Nat × Nat)} (h : Mine w0 w F e 2 v l.length (row ref2 l)) {i : Nat} {x : Nat × Nat} (hx : l[i]? = some x) :
    ∃ g cap, v = .slice (some ⟨g, 0, none⟩) l.length cap ∧ g < w.heap.size ∧ w.cell? ⟨g, i * 2, none⟩ = some (.int .i64 x.1) ∧ w.cell? ⟨g, i * 2 + 1, none⟩ = some (.int .i64 x.2) := by
  have hi : i < l.length := (List.getElem?_eq_some_iff.1 hx).1
  obtain ⟨g, cap, rfl, _, hg⟩ := h.own.form (by omega)
  refine ⟨g, cap, rfl, hg, ?_, ?_⟩
  · rw [h.own.cellAt (i * 2) (by omega)]
    have := row_get ref2_len l i 0 x hx (by decide)
    simpa [ref2] using this
  · rw [h.own.cellAt (i * 2 + 1) (by omega)]
    have := row_get ref2_len l i 1 x hx (by decide)
    simpa [ref2] using this

/-- a cell of a law's own list turned -/
theorem Mine.store1 {α : Type} {f : α → List Value} {w0 w : World} {F : Nat → Prop} {e : TypeId} {g n cap : Nat} {l : List α} (hf : ∀ x, (f x).length = 1) (h : Mine w0 w F e 1 (.slice (some ⟨g, 0, none⟩) n cap) l.length (row f l)) {i : Nat} {x x' : α} {u : Value} (hx : l[i]? = some x) (hu : (f x).set 0 u = f x') :
    Mine w0 (w.setCell ⟨g, i, none⟩ u) F e 1 (.slice (some ⟨g, 0, none⟩) n cap) (l.set i x').length (row f (l.set i x')) := by
  have hn : n = l.length := by
    rcases h.own.2 with ⟨e', _⟩ | ⟨g', cap', cur, e', _⟩
    · cases e'
    · cases e'; rfl
  subst hn
  refine ⟨?_, h.out⟩
  have := (h.own.stored i u).1
  have hr := row_set hf l i 0 x x' u hx (by decide) hu
  simp only [Nat.mul_one, Nat.add_zero] at hr
  rw [hr] at this
  simpa using this
theorem kept_cell {w : World} {g i : Nat} {u : Value} : Kept (fun k => k = g) w (w.setCell ⟨g, i, none⟩ u) := Kept.setCell (p := ⟨g, i, none⟩) (Kept.refl (fun k => k = g) w) (Or.inl rfl) u
theorem Mine.cell_other {w0 w : World} {F : Nat → Prop} {e e2 : TypeId} {sz sz2 n2 : Nat} {v : Value} {n g cap m i : Nat} {xs xs2 : List Value} {u : Value} (h : Mine w0 w F e sz v n xs) (h2 : w.ownsRow 0 e2 sz2 (.slice (some ⟨g, 0, none⟩) m cap) n2 xs2) (he : e ≠ e2) : Mine w0 (w.setCell ⟨g, i, none⟩ u) F e sz v n xs :=
  h.other kept_cell fun k hk q => by
    rcases own_ne h.own h2 he with z | z
    · rw [z] at hk; cases hk
    · exact z (by rw [hk, q]; rfl)
theorem HoldE.cell_other {w0 w : World} {F : Nat → Prop} {pa : Nat} {s : St (Int × Int)} {e : TypeId} {sz m n cap g i : Nat} {xs : List Value} {u : Value} (h : HoldE w0 w F pa s) (h2 : Mine w0 w F e sz (.slice (some ⟨g, 0, none⟩) m cap) n xs) : HoldE w0 (w.setCell ⟨g, i, none⟩ u) F pa s :=
  h.other kept_cell (fun k hk => by subst hk; exact (h2.out _ rfl).2) fun k hk q => by subst q; exact (h2.out _ rfl).1 hk

theorem at10 (Y : World) (o : Obj) : (Y.alloc o).heap[Y.heap.size]? = some o := heap_alloc_new Y o
theorem at20 (Y : World) (o o' : Obj) : ((Y.alloc o).alloc o').heap[Y.heap.size]? = some o := (Below.heap_alloc (Y.alloc o) o' Y.heap.size (by simp)).trans (at10 Y o)
theorem at21 (Y : World) (o o' : Obj) : ((Y.alloc o).alloc o').heap[Y.heap.size + 1]? = some o' := by
  have h := at10 (Y.alloc o) o'
  rw [show (Y.alloc o).heap.size = Y.heap.size + 1 by simp] at h
  exact h
theorem at30 (Y : World) (o o' o2 : Obj) : (((Y.alloc o).alloc o').alloc o2).heap[Y.heap.size]? = some o := (Below.heap_alloc ((Y.alloc o).alloc o') o2 Y.heap.size (by simp; omega)).trans (at20 Y o o')
theorem at31 (Y : World) (o o' o2 : Obj) : (((Y.alloc o).alloc o').alloc o2).heap[Y.heap.size + 1]? = some o' := (Below.heap_alloc ((Y.alloc o).alloc o') o2 (Y.heap.size + 1) (by simp)).trans (at21 Y o o')
theorem at32 (Y : World) (o o' o2 : Obj) : (((Y.alloc o).alloc o').alloc o2).heap[Y.heap.size + 2]? = some o2 := by
  have h := at10 ((Y.alloc o).alloc o') o2
  rw [show ((Y.alloc o).alloc o').heap.size = Y.heap.size + 2 by simp] at h
  exact h
theorem kp1 (Y : World) (o : Obj) : Kept (fun _ => False) Y (Y.alloc o) := (Kept.refl _ _).alloc _
theorem kp2 (Y : World) (o o' : Obj) : Kept (fun _ => False) Y ((Y.alloc o).alloc o') := ((Kept.refl _ _).alloc _).alloc _
theorem kp3 (Y : World) (o o' o2 : Obj) : Kept (fun _ => False) Y (((Y.alloc o).alloc o').alloc o2) := (((Kept.refl _ _).alloc _).alloc _).alloc _

section
variable {w X cur w6 : World} {F : Nat → Prop} {pa : Nat} {s : St (Int × Int)} {e e2 : TypeId} {sz sz2 n n2 g cap m : Nat} {v v2 : Value} {xs xs2 news : List Value}
theorem mine_push (M : Mine w X F e sz v n xs) (H : HoldE w X F pa s) (hgr : cur.grownBy w6 v.ownBlock) (ho : w6.ownsRow 0 e sz (.slice (some ⟨g, 0, none⟩) (n + m) cap) (n + m) (xs ++ news)) (hat : v.ownBlock = some g ∨ g = cur.heap.size) (kc : Kept (fun _ => False) X cur) : Mine w w6 F e sz (.slice (some ⟨g, 0, none⟩) (n + m) cap) (n + m) (xs ++ news) :=
  (M.plain kc).pushed hgr ho hat (H.plain kc).is.lt (H.plain kc).bel.size
theorem hold_push (M : Mine w X F e sz v n xs) (H : HoldE w X F pa s) (hgr : cur.grownBy w6 v.ownBlock) (kc : Kept (fun _ => False) X cur) : HoldE w w6 F pa s := (H.plain kc).grown (M.plain kc) hgr
theorem mine_stay (M2 : Mine w X F e2 sz2 v2 n2 xs2) (M : Mine w X F e sz v n xs) (hgr : cur.grownBy w6 v.ownBlock) (he : e2 ≠ e) (kc : Kept (fun _ => False) X cur) : Mine w w6 F e2 sz2 v2 n2 xs2 := (M2.plain kc).grown (M.plain kc).own hgr he
theorem cell_stay {p : Addr} {u : Value} {row : Option Nat} (h : X.cell? p = some u) (hp : p.block < X.heap.size) (hn : some p.block ≠ row) (hgr : cur.grownBy w6 row) (kc : Kept (fun _ => False) X cur) : w6.cell? p = some u :=
  (hgr.cell_far p (Nat.lt_of_lt_of_le hp kc.size) hn).trans ((kc.cell hp fun e => e).trans h)
theorem lt_of_cell {Y : World} {p : Addr} {u : Value} (h : Y.cell? p = some u) : p.block < Y.heap.size := cell_lt h
theorem keepS {Y Z : World} {p0 p1 p2 : Addr} {u0 u1 u2 : Value} (h0 : Y.cell? p0 = some u0) (h1 : Y.cell? p1 = some u1) (h2 : Y.cell? p2 = some u2) (k : Kept (fun _ => False) Y Z) : Z.cell? p0 = some u0 ∧ Z.cell? p1 = some u1 ∧ Z.cell? p2 = some u2 :=
  ⟨(k.cell (cell_lt h0) fun e => e).trans h0, (k.cell (cell_lt h1) fun e => e).trans h1, (k.cell (cell_lt h2) fun e => e).trans h2⟩
theorem blk_alloc {Y : World} {B : Nat} {o o' : Obj} (h : Y.heap[B]? = some o) : (Y.alloc o').heap[B]? = some o := (Below.heap_alloc Y o' B (lt_of_block h)).trans h
theorem blk_stay {B : Nat} {o : Obj} {row : Option Nat} (hgr : cur.grownBy w6 row) (h : cur.heap[B]? = some o) (hn : ∀ k, row = some k → k < B) : w6.heap[B]? = some o :=
  (hgr.block B (lt_of_block h) fun e => by have := hn B e.symm; omega).trans h
end

/-- all that is true at the head of a round -/
structure LivRel (w0 wr : World) (pa : Nat) (tv ov hv : Value) (n : Nat) (F : Nat → Prop) (s : St (Int × Int)) (told : List (Nat × Nat)) (over : List Bool) (has : List Int) : Prop where
  lv : Lv s told over has
  small : told.length ≤ n
  hold : HoldE w0 wr F pa s
  tm : Mine w0 wr F 25 2 tv told.length (row ref2 told)
  om : Mine w0 wr F 4 1 ov over.length (row bl1 over)
  hm : Mine w0 wr F 2 1 hv has.length (row in64 has)

set_option maxRecDepth 4000 in
set_option maxHeartbeats 8000000 in
theorem lives_walk (a : Option Addr) (cap : Nat) (l : List Ask) (_hl : l.length ≤ maxLen) (hI : ∀ x ∈ l, askI x) (w : World) (hC : Came w a 5 ask5 l) :
    Calls Try.prog 5 #[.slice a l.length cap] w fun e w' => e = .returned (.bool true) ∧ Below w.heap.size w w' := by
  unfold maxLen at _hl
  have HC := hid hC
  have HI := hid hI
  clear hC hI
  go_enter Try.func5, Try.ntmps5
  go_wp2_with fail
  refine (newEH 5 w).mono ?_
  rintro e w2 ⟨F, pa, rfl, h2⟩
  rw [show most0 5 = 5 from rfl] at h2
  have H2 := hid h2
  clear h2
  go_wp2
  go_loopw [4, 5, 6, 7] (fun tv ov hv iv wr => ∃ (i : Nat) (F : Nat → Prop) (s : St (Int × Int)) (told : List (Nat × Nat)) (over : List Bool) (has : List Int), iv = .int .i64 i ∧ i ≤ 60 ∧ LivRel w wr pa tv ov hv i F s told over has) (fun _ _ _ i _ => 60 - (intOf i).toNat)
  case atStart => exact ⟨0, F, _, [], [], [], rfl, by decide, Lv.start, Nat.le_refl _, H2.out, Mine.nil _ _ _ _ _, Mine.nil _ _ _ _ _, Mine.nil _ _ _ _ _⟩
  case round =>
    clear H2 F
    obtain ⟨i, F, s, told, over, has, rfl, hi60, hR⟩ := hrel
    have HR := hid hR
    have hsm := hR.small
    clear hR
    rcases (by omega : (i < l.length ∧ i < 60) ∨ ((l.length ≤ i) ∨ (i < l.length ∧ 60 ≤ i))) with hh | hh
    · obtain ⟨hlt, h60⟩ := hh
      have hx : l[i]? = some l[i] := List.getElem?_eq_getElem hlt
      obtain ⟨b, off, rfl, hb, hc⟩ := HC.out.get HR.out.hold.bel hx
      have hy := HI.out _ (List.getElem_mem hlt)
      generalize l[i] = q at hc hy
      have c0 : wr.cell? ⟨b, off + i * 5, none⟩ = some (.int .i64 q.kind) := by simpa [ask5] using hc 0 (by omega)
      have c1 : wr.cell? ⟨b, off + i * 5 + 1, none⟩ = some (.int .i64 q.i) := by simpa [ask5, Nat.add_assoc] using hc 1 (by omega)
      have c2 : wr.cell? ⟨b, off + i * 5 + 2, none⟩ = some (.int .i64 q.v) := by simpa [ask5, Nat.add_assoc] using hc 2 (by omega)
      have hlt1 : (i : Int) < (l.length : Int) := by omega
      have hbr : b < wr.heap.size := Nat.lt_of_lt_of_le hb HR.out.hold.bel.size
      have hyI := hy.2.1
      clear hc hx hy
      obtain ⟨wq, hwq⟩ : ∃ wq, wq = wr := ⟨wr, rfl⟩
      subst hwq
      obtain ⟨ta, tc, rfl⟩ := own_form HR.out.tm.own
      go_upto_region 10 with fail
      go_cut [42] from 31 to 42 (fun v wx => v = .bool (decide (0 < told.length ∧ q.kind.tmod 3 = 0)) ∧ wx = wq)
      case first =>
        by_cases d1 : 0 < told.length
        · by_cases d2 : q.kind.tmod 3 = 0
          · have d3 : decide (0 < told.length ∧ q.kind.tmod 3 = 0) = true := decide_eq_true ⟨d1, d2⟩
            go_wp2_with fail
            go_meet
            case rel => exact ⟨by rw [d3], rfl⟩
          · have d3 : decide (0 < told.length ∧ q.kind.tmod 3 = 0) = false := decide_eq_false (fun h => d2 h.2)
            have d4 : (q.kind.tmod 3 == 0) = false := by simp [d2]
            go_wp2_with fail
            go_meet
            case rel => exact ⟨by rw [d3], rfl⟩
        · have d3 : decide (0 < told.length ∧ q.kind.tmod 3 = 0) = false := decide_eq_false (fun h => d1 h.1)
          go_wp2_with fail
          go_meet
          case rel => exact ⟨by rw [d3], rfl⟩
      case rest =>
      obtain ⟨rfl, rfl⟩ := hcut
      go_upto_if 42 with fail
      go_cut [4, 5, 6, 18, 19, 20] from 8 to 130 (fun tv ov hv p18 p19 p20 wx => p18 = .pointer (some ⟨pa, 0, none⟩) ∧ p19 = .pointer (some ⟨pa, 0, none⟩) ∧ p20 = .bool false ∧ ∃ (F : Nat → Prop) (s : St (Int × Int)) (told : List (Nat × Nat)) (over : List Bool) (has : List Int), LivRel w wx pa tv ov hv (i + 1) F s told over has)
      case first =>
        by_cases cA : 0 < told.length ∧ q.kind.tmod 3 = 0
        · as_aux_lemma =>
            rw [decide_eq_true cA]
            have ht := cA.1
            obtain ⟨m, hm⟩ : ∃ m, told.length = m + 1 := ⟨told.length - 1, by omega⟩
            have hkm : (told.length : Int) - 1 = (m : Int) := by omega
            have HMK := hid hm
            clear hm cA c0 c2
            go_wp2_with fail
            refine (within_any q.i hyI 0 m (Nat.zero_le _) (by omega) _).mono ?_
            rintro e w4 ⟨r, rfl, -, hr, rfl⟩
            have hrt : r < told.length := by have := HMK.out; omega
            have hp : told[r]? = some told[r] := List.getElem?_eq_getElem hrt
            obtain ⟨ob, hob⟩ := HR.out.lv.over_at hrt
            obtain ⟨hv', hhv⟩ := HR.out.lv.has_at hrt
            generalize told[r] = p at hp
            obtain ⟨tg, tgc, ee, htg, t0, t1⟩ := mine2_get HR.out.tm hp
            cases ee
            have hrt1 : (r : Int) < (told.length : Int) := by omega
            have HP := hid hp
            have HOB := hid hob
            have HHV := hid hhv
            clear c1 hkm hp hob hhv
            go_wp2_with fail
            refine (giveEH p.1 p.2 HR.out.hold (by have := HR.out.lv.len; have := HR.out.lv.room; omega)).mono ?_
            rintro e w5 ⟨rfl, h5, k5⟩
            have m1 := HR.out.tm.call k5
            have m2 := HR.out.om.call k5
            have m3 := HR.out.hm.call k5
            generalize Grow F w4 w5 = F5 at h5 m1 m2 m3
            cases ob with
            | true =>
              have hst := HR.out.lv.stale HP.out HOB.out
              have L5 := hid (HR.out.lv.give_over HP.out HOB.out)
              rw [hst, getS_no (by rw [hst]; decide)]
              have kk := knew w5 (.cells #[.int .i64 0, .int .i64 0] 37)
              have H5 := hid (h5.plain kk)
              have M1 := hid (m1.plain kk)
              have M2 := hid (m2.plain kk)
              have M3 := hid (m3.plain kk)
              obtain ⟨og, oc, rfl, hog, hof, o0⟩ := mine1_get bl1_len M2.out HOB.out
              replace o0 : (w5.alloc (.cells #[.int .i64 0, .int .i64 0] 37)).cell? ⟨og, r, none⟩ = some (.bool true) := o0
              have hro : (r : Int) < (over.length : Int) := by rw [HR.out.lv.lo]; exact hrt1
              clear h5 m1 m2 m3 k5 hst kk t0 t1
              go_wp2_with fail
              go_quiet (fail)
              go_wp2_with fail
              go_meet
              case rel => exact ⟨rfl, rfl, rfl, F5, _, told, over.set r true, has, L5.out, by omega, (H5.out.plain ((Kept.refl _ _).drewN _)).cell_other (M2.out.plain ((Kept.refl _ _).drewN _)), (M1.out.plain ((Kept.refl _ _).drewN _)).cell_other (M2.out.plain ((Kept.refl _ _).drewN _)).own (by decide), (M2.out.plain ((Kept.refl _ _).drewN _)).store1 bl1_len HOB.out rfl, (M3.out.plain ((Kept.refl _ _).drewN _)).cell_other (M2.out.plain ((Kept.refl _ _).drewN _)).own (by decide)⟩
            | false =>
              obtain ⟨hst, hgv, -⟩ := HR.out.lv.live HP.out HOB.out HHV.out
              have L5 := hid (HR.out.lv.give_live HP.out HOB.out)
              rw [hst]
              have GV := hid hgv
              obtain ⟨gs, hgs⟩ : ∃ gs, getS ((0, 0) : Int × Int) s.pl p.1 p.2 = gs := ⟨_, rfl⟩
              rw [hgs] at hgv
              rw [hgs]
              have kk := knew w5 (.cells #[.int .i64 gs.1, .int .i64 gs.2] 37)
              have H5 := hid (h5.plain kk)
              have M1 := hid (m1.plain kk)
              have M2 := hid (m2.plain kk)
              have M3 := hid (m3.plain kk)
              obtain ⟨og, oc, rfl, hog, hof, o0⟩ := mine1_get bl1_len M2.out HOB.out
              replace o0 : (w5.alloc (.cells #[.int .i64 gs.1, .int .i64 gs.2] 37)).cell? ⟨og, r, none⟩ = some (.bool false) := o0
              obtain ⟨hg, hc, rfl, hhg, -, v0⟩ := mine1_get in64_len M3.out HHV.out
              replace v0 : (w5.alloc (.cells #[.int .i64 gs.1, .int .i64 gs.2] 37)).cell? ⟨hg, r, none⟩ = some (.int .i64 hv') := v0
              have hro : (r : Int) < (over.length : Int) := by rw [HR.out.lv.lo]; exact hrt1
              have hrh : (r : Int) < (has.length : Int) := by rw [HR.out.lv.lh]; exact hrt1
              have hne : (gs.1 != hv') = false := by rw [hgv]; simp
              clear h5 m1 m2 m3 k5 hst kk t0 t1 hgs hgv
              go_wp2_with fail
              go_quiet (fail)
              go_wp2_with fail
              go_meet
              case rel => exact ⟨rfl, rfl, rfl, F5, _, told, over.set r true, has, L5.out, by omega, (H5.out.plain ((Kept.refl _ _).drewN _)).cell_other (M2.out.plain ((Kept.refl _ _).drewN _)), (M1.out.plain ((Kept.refl _ _).drewN _)).cell_other (M2.out.plain ((Kept.refl _ _).drewN _)).own (by decide), (M2.out.plain ((Kept.refl _ _).drewN _)).store1 bl1_len HOB.out rfl, (M3.out.plain ((Kept.refl _ _).drewN _)).cell_other (M2.out.plain ((Kept.refl _ _).drewN _)).own (by decide)⟩
        · as_aux_lemma =>
            rw [decide_eq_false cA]
            clear cA c0 c1 hyI
            go_wp2_with fail
            refine (takeEH (q.v, 0) HR.out.hold (by have := HR.out.lv.room; omega) (by have := HR.out.lv.len; have := HR.out.lv.room; omega) (fun b hb => by obtain ⟨x, hx, _⟩ := HR.out.lv.bk b hb; exact (List.getElem?_eq_some_iff.1 hx).1) (fun x hx => by have := HR.out.lv.liv x hx; omega)).mono ?_
            rintro e w5 ⟨rfl, h5, k5⟩
            have m1 := HR.out.tm.call k5
            have m2 := HR.out.om.call k5
            have m3 := HR.out.hm.call k5
            have hbF : ¬ F b := fun e => by have := HR.out.hold.new b e; omega
            have c5 := (k5.cell (p := ⟨b, off + i * 5 + 2, none⟩) hbr hbF).trans c2
            have hb5 : b < w5.heap.size := Nat.lt_of_lt_of_le hbr k5.size
            generalize Grow F _ w5 = F5 at h5 m1 m2 m3
            cases hok : (nextS ((0, 0) : Int × Int) s).2.2 with
            | false =>
              have e1 : takeS ((0, 0) : Int × Int) (q.v, 0) s = s := by unfold takeS; rw [hok]; rfl
              have e2 : tookS ((0, 0) : Int × Int) s = (0, 0) := by unfold tookS; rw [hok]; rfl
              rw [e1] at h5
              rw [e2]
              have kk := knew w5 (.cells #[.int .i64 0, .int .i64 0] 25)
              have L5 := hid HR.out.lv
              have H5 := hid (h5.plain kk)
              have M1 := hid (m1.plain kk)
              have M2 := hid (m2.plain kk)
              have M3 := hid (m3.plain kk)
              clear h5 m1 m2 m3 k5 kk e1 e2 c2 c5 hok
              go_wp2_with fail
              go_meet
              case rel => exact ⟨rfl, rfl, rfl, F5, s, told, over, has, L5.out, by omega, H5.out, M1.out, M2.out, M3.out⟩
            | true =>
              obtain ⟨hnew, hlv⟩ := HR.out.lv.take hok (q.v, 0)
              obtain ⟨tk, htk⟩ : ∃ tk, tookS ((0, 0) : Int × Int) s = tk := ⟨_, rfl⟩
              rw [htk] at hnew hlv
              rw [htk]
              have kk := knew w5 (.cells #[.int .i64 tk.1, .int .i64 tk.2] 25)
              have L5 := hid hlv
              have NEW := hid hnew
              have H5 := hid (h5.plain kk)
              have M1 := hid (m1.plain kk)
              have M2 := hid (m2.plain kk)
              have M3 := hid (m3.plain kk)
              have d5 := (kk.cell (p := ⟨b, off + i * 5 + 2, none⟩) hb5 fun e => e).trans c5
              have hW : w5.heap.size < (w5.alloc (.cells #[.int .i64 tk.1, .int .i64 tk.2] 25)).heap.size := by simp
              obtain ⟨z0, z1⟩ := cell_new w5 (.int .i64 tk.1) (.int .i64 tk.2) 25
              have hbW : b < (w5.alloc (.cells #[.int .i64 tk.1, .int .i64 tk.2] 25)).heap.size := by simp; omega
              have L1 := hid (fun k hk => (⟨(m1.out k hk).2, m1.lt k hk⟩ : w.heap.size ≤ k ∧ k < w5.heap.size))
              have L2 := hid (fun k hk => (⟨(m2.out k hk).2, m2.lt k hk⟩ : w.heap.size ≤ k ∧ k < w5.heap.size))
              have L3 := hid (fun k hk => (⟨(m3.out k hk).2, m3.lt k hk⟩ : w.heap.size ≤ k ∧ k < w5.heap.size))
              clear h5 m1 m2 m3 k5 kk c2 c5 hok hnew hlv htk
              go_wp2
              generalize w5.alloc (.cells #[.int .i64 tk.1, .int .i64 tk.2] 25) = W at *
              generalize w5.heap.size = rb at *
              go_loopw [13] (fun iv wr => ∃ k n : Nat, iv = .int .i64 k ∧ k ≤ told.length ∧ wr = W.drewN n) (fun i _ => told.length - (intOf i).toNat)
              case atStart => exact ⟨0, 0, rfl, Nat.zero_le _, rfl⟩
              case round =>
                obtain ⟨k, n, rfl, hk, rfl⟩ := hrel
                by_cases hkt : k < told.length
                · have hp : told[k]? = some told[k] := List.getElem?_eq_getElem hkt
                  have hpn : told[k] ≠ tk := fun e => NEW.out k (by rw [hp, e])
                  generalize told[k] = p at hp hpn
                  obtain ⟨tg, tgc, ee, htg, t0, t1⟩ := mine2_get M1.out hp
                  cases ee
                  have hq := fun w => eql25 (p.1, p.2) (tk.1, tk.2) w
                  have hd : decide (((p.1 : Int), (p.2 : Int)) = ((tk.1 : Int), (tk.2 : Int))) = false := by
                    rw [decide_eq_false_iff_not]
                    intro e
                    injection e with e1 e2
                    exact hpn (Prod.ext (by omega) (by omega))
                  rw [hd] at hq
                  have hkt1 : (k : Int) < (told.length : Int) := by omega
                  clear hp hpn hd
                  go_wp2_with fail
                  go_quiet (fail)
                  go_wp2
                  go_roundw
                  case rel => exact ⟨k + 1, _, by go_num, by omega, rfl⟩
                  case measure => simp [intOf]; omega
                · have hX : ∀ (p : Addr) u, W.cell? p = some u → (W.drewN n).cell? p = some u := fun p u h => h
                  have H6 := hid (H5.out.plain ((Kept.refl _ _).drewN n))
                  have N1 := hid (M1.out.plain ((Kept.refl _ _).drewN n))
                  have N2 := hid (M2.out.plain ((Kept.refl _ _).drewN n))
                  have N3 := hid (M3.out.plain ((Kept.refl _ _).drewN n))
                  have x0 := hX _ _ z0
                  have x1 := hX _ _ z1
                  have x2 := hX _ _ d5
                  have hrX : rb < (W.drewN n).heap.size := hW
                  have hbX : b < (W.drewN n).heap.size := hbW
                  clear hX z0 z1 d5 M1 M2 M3 H5 hW hbW
                  go_wp2_with fail
                  generalize W.drewN n = X at *
                  obtain ⟨ti, hti, hz0, hz1, hz2⟩ := info_parts info25
                  have HT := hid hti
                  have Z0 := hid hz0
                  have Z1 := hid hz1
                  have Z2 := hid hz2
                  obtain ⟨tb, htb, hb0, hb1, hb2⟩ := info_parts info4
                  have BT := hid htb
                  have B0 := hid hb0
                  have B1 := hid hb1
                  have BB := hid hb2
                  obtain ⟨tv, htv, hv0, hv1, hv2⟩ := info_parts info2
                  have VT := hid htv
                  have V0 := hid hv0
                  have V1 := hid hv1
                  have VB := hid hv2
                  have LO := hid HR.out.lv.lo
                  have LH := hid HR.out.lv.lh
                  clear hti hz0 hz1 hz2 htb hb0 hb1 hb2 htv hv0 hv1 hv2
                  go_region_held3 (fun w' => w'.cell? ⟨rb, 0, none⟩ = some (.int .i64 tk.1) ∧ w'.cell? ⟨rb, 1, none⟩ = some (.int .i64 tk.2) ∧ w'.cell? ⟨b, off + i * 5 + 2, none⟩ = some (.int .i64 q.v)) (first | exact ⟨s0, s1, s2⟩ | exact keepS v0 v1 v2 (by first | exact Kept.refl _ _ | exact kp1 w7 _) | exact keepS y0 y1 y2 (by first | exact Kept.refl _ _ | exact kp1 w6 _ | exact kp2 w6 _ _) | exact keepS x0 x1 x2 (by first | exact (Kept.refl _ _).drew | exact (kp1 X _).drew | exact (kp2 X _ _).drew | exact (kp3 X _ _ _).drew))
                    (first
                      | (refine step_append_lies _ rfl (.tmp 116) (.tmp 118) 38 rfl 0 25 ti _ 2 16 Try.underlying38 HT.out Z0.out Z1.out Z2.out rfl (by decide) (.slice ta told.length tc) told.length (row ref2 told) rfl (by exact own_plain N1.out.own (by first | exact (kp1 X _).drew | exact (kp2 X _ _).drew | exact (kp3 X _ _ _).drew)) _ 1 1 (ref2 tk) rfl rfl (by first | exact World.news_of_block (at10 X _) | exact World.news_of_block (at20 X _ _) | exact World.news_of_block (at21 X _ _) | exact World.news_of_block (at30 X _ _ _) | exact World.news_of_block (at31 X _ _ _) | exact World.news_of_block (at32 X _ _ _)) (ref2_one _) (by decide) (by simp [maxLen]; omega) (by omega) (Nat.zero_le _) _ rfl ?_; intro g6 c6 w6 ho hgr hat hlt; have T6 := hid (mine_push N1.out H6.out hgr ho hat (by first | exact (kp1 X _).drew | exact (kp2 X _ _).drew | exact (kp3 X _ _ _).drew)); have H7 := hid (hold_push N1.out H6.out hgr (by first | exact (kp1 X _).drew | exact (kp2 X _ _).drew | exact (kp3 X _ _ _).drew)); have P2 := hid (mine_stay N2.out N1.out hgr (by decide) (by first | exact (kp1 X _).drew | exact (kp2 X _ _).drew | exact (kp3 X _ _ _).drew)); have P3 := hid (mine_stay N3.out N1.out hgr (by decide) (by first | exact (kp1 X _).drew | exact (kp2 X _ _).drew | exact (kp3 X _ _ _).drew)); have y0 := cell_stay x0 hrX (fun e => by have := L1.out rb e.symm; omega) hgr (by first | exact (kp1 X _).drew | exact (kp2 X _ _).drew | exact (kp3 X _ _ _).drew); have y1 := cell_stay x1 hrX (fun e => by have := L1.out rb e.symm; omega) hgr (by first | exact (kp1 X _).drew | exact (kp2 X _ _).drew | exact (kp3 X _ _ _).drew); have y2 := cell_stay x2 hbX (fun e => by have := L1.out b e.symm; omega) hgr (by first | exact (kp1 X _).drew | exact (kp2 X _ _).drew | exact (kp3 X _ _ _).drew); (first | (have B2 : w6.heap[X.heap.size]? = some (.cells #[.bool false] 4) := blk_stay hgr (by first | exact at20 X _ _ | exact at30 X _ _ _) (fun k hk => by have := L1.out k hk; omega)) | (have B2 : w6.heap[X.heap.size + 1]? = some (.cells #[.bool false] 4) := blk_stay hgr (by first | exact at21 X _ _ | exact at31 X _ _ _) (fun k hk => by have := L1.out k hk; omega)) | (have B2 : w6.heap[X.heap.size + 2]? = some (.cells #[.bool false] 4) := blk_stay hgr (by exact at32 X _ _ _) (fun k hk => by have := L1.out k hk; omega)) | skip); (first | (have B3 : w6.heap[X.heap.size]? = some (.cells #[.int .i64 q.v] 2) := blk_stay hgr (by first | exact at20 X _ _ | exact at30 X _ _ _) (fun k hk => by have := L1.out k hk; omega)) | (have B3 : w6.heap[X.heap.size + 1]? = some (.cells #[.int .i64 q.v] 2) := blk_stay hgr (by first | exact at21 X _ _ | exact at31 X _ _ _) (fun k hk => by have := L1.out k hk; omega)) | (have B3 : w6.heap[X.heap.size + 2]? = some (.cells #[.int .i64 q.v] 2) := blk_stay hgr (by exact at32 X _ _ _) (fun k hk => by have := L1.out k hk; omega)) | skip); have hrY : rb < w6.heap.size := lt_of_cell y0; have hbY : b < w6.heap.size := lt_of_cell y2; clear ho hgr hat hlt N1 N2 N3 H6)
                      | (refine step_append_lies _ rfl (.tmp 120) (.tmp 121) 39 rfl 0 4 tb _ 1 1 Try.underlying39 BT.out B0.out B1.out BB.out rfl (by decide) u5 over.length (row bl1 over) rfl (by exact own_plain P2.out.own (by first | exact Kept.refl _ _ | exact kp1 w6 _ | exact kp2 w6 _ _)) _ 1 1 (bl1 false) rfl rfl (by first | exact World.news_of_block B2 | exact World.news_of_block (blk_alloc B2) | exact World.news_of_block (at10 w6 _) | exact World.news_of_block (at20 w6 _ _) | exact World.news_of_block (at21 w6 _ _)) (bl1_one _) (by decide) (by have := LO.out; simp [maxLen]; omega) (by have := LO.out; omega) (Nat.zero_le _) _ rfl ?_; intro g7 c7 w7 ho hgr hat hlt; have T7 := hid (mine_stay T6.out P2.out hgr (by decide) (by first | exact Kept.refl _ _ | exact kp1 w6 _ | exact kp2 w6 _ _)); have O7 := hid (mine_push P2.out H7.out hgr ho hat (by first | exact Kept.refl _ _ | exact kp1 w6 _ | exact kp2 w6 _ _)); have Q3 := hid (mine_stay P3.out P2.out hgr (by decide) (by first | exact Kept.refl _ _ | exact kp1 w6 _ | exact kp2 w6 _ _)); have H8 := hid (hold_push P2.out H7.out hgr (by first | exact Kept.refl _ _ | exact kp1 w6 _ | exact kp2 w6 _ _)); have v0 := cell_stay y0 hrY (fun e => by have := L2.out rb e.symm; omega) hgr (by first | exact Kept.refl _ _ | exact kp1 w6 _ | exact kp2 w6 _ _); have v1 := cell_stay y1 hrY (fun e => by have := L2.out rb e.symm; omega) hgr (by first | exact Kept.refl _ _ | exact kp1 w6 _ | exact kp2 w6 _ _); have v2 := cell_stay y2 hbY (fun e => by have := L2.out b e.symm; omega) hgr (by first | exact Kept.refl _ _ | exact kp1 w6 _ | exact kp2 w6 _ _); (first | (have D3 := blk_stay (o := .cells #[.int .i64 q.v] 2) hgr (by first | exact B3 | exact blk_alloc B3) (fun k hk => by have := L2.out k hk; omega)) | (have D3 : w7.heap[w6.heap.size]? = some (.cells #[.int .i64 q.v] 2) := blk_stay hgr (by first | exact at10 w6 _ | exact at20 w6 _ _) (fun k hk => by have := L2.out k hk; omega)) | (have D3 : w7.heap[w6.heap.size + 1]? = some (.cells #[.int .i64 q.v] 2) := blk_stay hgr (by exact at21 w6 _ _) (fun k hk => by have := L2.out k hk; omega)) | skip); have hrZ : rb < w7.heap.size := lt_of_cell v0; have hbZ : b < w7.heap.size := lt_of_cell v2; clear ho hgr hat hlt T6 P2 P3 H7)
                      | (refine step_append_lies _ rfl (.tmp 123) (.tmp 129) 40 rfl 0 2 tv _ 1 8 Try.underlying40 VT.out V0.out V1.out VB.out rfl (by decide) u6 has.length (row in64 has) rfl (by exact own_plain Q3.out.own (by first | exact Kept.refl _ _ | exact kp1 w7 _)) _ 1 1 (in64 q.v) rfl rfl (by first | exact World.news_of_block D3 | exact World.news_of_block (at10 w7 _)) (in64_one _) (by decide) (by have := LH.out; simp [maxLen]; omega) (by have := LH.out; omega) (Nat.zero_le _) _ rfl ?_; intro g8 c8 w8 ho hgr hat hlt; have T8 := hid (mine_stay T7.out Q3.out hgr (by decide) (by first | exact Kept.refl _ _ | exact kp1 w7 _)); have O8 := hid (mine_stay O7.out Q3.out hgr (by decide) (by first | exact Kept.refl _ _ | exact kp1 w7 _)); have V8 := hid (mine_push Q3.out H8.out hgr ho hat (by first | exact Kept.refl _ _ | exact kp1 w7 _)); have H9 := hid (hold_push Q3.out H8.out hgr (by first | exact Kept.refl _ _ | exact kp1 w7 _)); have s0 := cell_stay v0 hrZ (fun e => by have := L3.out rb e.symm; omega) hgr (by first | exact Kept.refl _ _ | exact kp1 w7 _); have s1 := cell_stay v1 hrZ (fun e => by have := L3.out rb e.symm; omega) hgr (by first | exact Kept.refl _ _ | exact kp1 w7 _); have s2 := cell_stay v2 hbZ (fun e => by have := L3.out b e.symm; omega) hgr (by first | exact Kept.refl _ _ | exact kp1 w7 _); clear ho hgr hat hlt T7 O7 Q3 H8))
                  all_goals
                    go_wp2_with fail
                    go_meet
                    case rel => exact ⟨rfl, rfl, rfl, F5, _, told ++ [tk], over ++ [false], has ++ [q.v], L5.out, by simp; omega, H9.out, by rw [row_append, List.length_append]; simpa [row] using T8.out, by rw [row_append, List.length_append]; simpa [row] using O8.out, by rw [row_append, List.length_append]; simpa [row] using V8.out⟩
      case rest =>
        as_aux_lemma =>
          obtain ⟨rfl, rfl, rfl, F6, s6, told6, over6, has6, hR6⟩ := hcut
          have R6 := hid hR6
          obtain ⟨ta6, tc6, rfl⟩ := own_form hR6.tm.own
          have hsm6 := hR6.small
          clear hR6 HR hsm hbr c0 c1 c2 hyI hlt1 hlt
          go_wp2
          go_loopw [14, 15] (fun nv kv wr => ∃ k : Nat, nv = .int .i64 ((over6.take k).count false : Nat) ∧ kv = .int .i64 k ∧ k ≤ told6.length ∧ Kept (fun _ => False) wc wr) (fun _ k _ => told6.length - (intOf k).toNat)
          case atStart => exact ⟨0, by simp, rfl, Nat.zero_le _, Kept.refl _ _⟩
          case round =>
            obtain ⟨k, rfl, rfl, hk, hKW⟩ := hrel
            have KW := hid hKW
            clear hKW
            by_cases hkt : k < told6.length
            · have hp : told6[k]? = some told6[k] := List.getElem?_eq_getElem hkt
              obtain ⟨ob, hob⟩ := R6.out.lv.over_at hkt
              obtain ⟨hv', hhv⟩ := R6.out.lv.has_at hkt
              generalize told6[k] = p at hp
              have hH := R6.out.hold.plain KW.out
              have m1 := R6.out.tm.plain KW.out
              obtain ⟨tg, tgc, ee, htg, t0, t1⟩ := mine2_get m1 hp
              cases ee
              have hkt1 : (k : Int) < (told6.length : Int) := by omega
              have HP := hid hp
              have HOB := hid hob
              have HHV := hid hhv
              have HH := hid hH
              clear hp hob hhv hH m1
              go_wp2_with fail
              refine (getEH p.1 p.2 HH.out).mono ?_
              rintro e w5 ⟨rfl, -, k5⟩
              have hKf := KW.out.trans' k5
              have hro : (k : Int) < (over6.length : Int) := by rw [R6.out.lv.lo]; exact hkt1
              have hcl : (over6.take k).count false ≤ 60 := by
                have h1 := List.count_le_length (l := over6.take k) (a := false)
                rw [List.length_take] at h1
                omega
              have hcs : (over6.take (k + 1)).count false = (over6.take k).count false + [ob].count false := by
                rw [List.take_add_one, HOB.out, List.count_append]
                rfl
              have HCS := hid hcs
              cases ob with
              | true =>
                have hst := R6.out.lv.stale HP.out HOB.out
                rw [hst, getS_no (by rw [hst]; decide)]
                have hKa := hKf.alloc (.cells #[.int .i64 0, .int .i64 0] 37)
                obtain ⟨og, oc, rfl, hog, -, o0⟩ := mine1_get bl1_len (R6.out.om.plain hKa) HOB.out
                replace o0 : (w5.alloc (.cells #[.int .i64 0, .int .i64 0] 37)).cell? ⟨og, k, none⟩ = some (.bool true) := o0
                have KA := hid hKa
                clear hKf hKa k5 hst t0 t1 hcs
                go_wp2_with fail
                go_quiet (fail)
                go_wp2
                go_roundw
                case rel => exact ⟨k + 1, by rw [HCS.out]; rfl, by go_num, by omega, KA.out.drewN _⟩
                case measure => simp [intOf]; omega
              | false =>
                obtain ⟨hst, hgv, -⟩ := R6.out.lv.live HP.out HOB.out HHV.out
                rw [hst]
                obtain ⟨gs, hgs⟩ : ∃ gs, getS ((0, 0) : Int × Int) s6.pl p.1 p.2 = gs := ⟨_, rfl⟩
                rw [hgs] at hgv
                rw [hgs]
                have hKa := hKf.alloc (.cells #[.int .i64 gs.1, .int .i64 gs.2] 37)
                obtain ⟨og, oc, rfl, hog, -, o0⟩ := mine1_get bl1_len (R6.out.om.plain hKa) HOB.out
                replace o0 : (w5.alloc (.cells #[.int .i64 gs.1, .int .i64 gs.2] 37)).cell? ⟨og, k, none⟩ = some (.bool false) := o0
                obtain ⟨hg, hc, rfl, hhg, -, v0⟩ := mine1_get in64_len (R6.out.hm.plain hKa) HHV.out
                replace v0 : (w5.alloc (.cells #[.int .i64 gs.1, .int .i64 gs.2] 37)).cell? ⟨hg, k, none⟩ = some (.int .i64 hv') := v0
                have hrh : (k : Int) < (has6.length : Int) := by rw [R6.out.lv.lh]; exact hkt1
                have hne : (gs.1 != hv') = false := by rw [hgv]; simp
                have KA := hid hKa
                clear hKf hKa k5 hst t0 t1 hgs hgv hcs
                go_wp2_with fail
                go_quiet (fail)
                go_wp2
                go_roundw
                case rel => exact ⟨k + 1, by rw [HCS.out]; go_num, by go_num, by omega, KA.out.drewN _⟩
                case measure => simp [intOf]; omega
            · obtain rfl : k = told6.length := by omega
              have hall : over6.take told6.length = over6 := by rw [← R6.out.lv.lo]; exact List.take_length
              rw [hall]
              obtain ⟨l1, l2, l3⟩ := R6.out.lv.len
              have HH := hid (R6.out.hold.plain KW.out)
              have hl6 := R6.out.lv.room
              have LL := hid l1
              have TM := hid (R6.out.tm.plain KW.out)
              have OM := hid (R6.out.om.plain KW.out)
              have HM := hid (R6.out.hm.plain KW.out)
              generalize hcn : over6.count false = cn at *
              clear hall l1 hcn hkt
              go_wp2_with fail
              refine (lenEH HH.out l2 (by omega)).mono ?_
              rintro e w7 ⟨rfl, nd, rfl⟩
              rw [← LL.out]
              clear l2
              go_wp2
              go_roundw
              case rel => exact ⟨i + 1, F6, s6, told6, over6, has6, by go_num, by omega, R6.out.lv, hsm6, HH.out.plain ((Kept.refl _ _).drewN _), TM.out.plain ((Kept.refl _ _).drewN _), OM.out.plain ((Kept.refl _ _).drewN _), HM.out.plain ((Kept.refl _ _).drewN _)⟩
              case measure => simp [intOf]; omega
    · have hdone : ¬ i < l.length ∨ (i < l.length ∧ ¬ i < 60) := by
        rcases hh with hh | ⟨hh, hh'⟩
        · exact Or.inl (by omega)
        · exact Or.inr ⟨hh, by omega⟩
      have BL := hid HR.out.hold.bel
      clear hh HR hsm hi60
      rcases hdone with c1 | ⟨c1, c2⟩
      all_goals
        go_wp2_with fail
        refine (known_any _).mono ?_
        rintro e w7 ⟨rfl, hb7⟩
        have B7 := hid (BL.out.trans (hb7.mono BL.out.size))
        clear hb7
        go_wp2
        go_ret
        exact ⟨rfl, B7.out⟩
end Go.Proofs.Ytliabapopgeieaa
