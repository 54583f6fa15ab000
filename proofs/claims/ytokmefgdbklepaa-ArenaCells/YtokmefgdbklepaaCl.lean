/- The walk of ArenaCells. -/
import Derived.Test.YtokmefgdbklepaaRl
import Derived.Deep.DeepCutAuto
import Derived.Deep.CutBlock
namespace Go.Proofs.Ytokmefgdbklepaa
open Go.ChangeShapes Go.WideShapes Go.ChangeAt Go.RowKit

/-- an array of eight in memory -/
def Arr (w : World) (b : Nat) (t : TypeId) (f : Nat → Value) : Prop := ∃ cur, w.heap[b]? = some (.cells cur t (0, 0)) ∧ ∀ k, k < 8 → cur[k]? = some (f k)
section
variable {w w' : World} {b : Nat} {t : TypeId} {f : Nat → Value} {k : Nat}
theorem Arr.lt (h : Arr w b t f) : b < w.heap.size := by obtain ⟨_, h, _⟩ := h; exact lt_of_block h
theorem Arr.cell (h : Arr w b t f) (hk : k < 8) : w.cell? ⟨b, k, none⟩ = some (f k) := by obtain ⟨_, h, hc⟩ := h; exact blk_cell h (hc k hk)
theorem Arr.free (h : Arr w b t f) : w.frozen? ⟨b, k, none⟩ = false := by obtain ⟨_, h, _⟩ := h; exact blk_free h
theorem Arr.kept {G : Nat → Prop} (h : Arr w b t f) (hk : Kept G w w') (hG : ¬ G b) : Arr w' b t f := by
  have hlt := h.lt
  obtain ⟨cur, h, hc⟩ := h
  exact ⟨cur, (hk.block b hlt hG).trans h, hc⟩
theorem Arr.set (h : Arr w b t f) (hk : k < 8) (u : Value) : Arr (w.setCell ⟨b, k, none⟩ u) b t (fun j => if j = k then u else f j) := by
  obtain ⟨cur, h, hc⟩ := h
  have hsz : k < cur.size := by
    have := hc k hk
    exact (Array.getElem?_eq_some_iff.1 this).1
  refine ⟨_, blk_set h, fun j hj => ?_⟩
  rw [Array.getElem?_setIfInBounds]
  by_cases e : k = j
  · subst e; simp [hsz]
  · rw [if_neg e]
    show cur[j]? = some (if j = k then u else f j)
    rw [if_neg (Ne.symm e)]; exact hc j hj
theorem Arr.other (h : Arr w b t f) {p : Addr} (hp : b ≠ p.block) (u : Value) : Arr (w.setCell p u) b t f := by
  obtain ⟨cur, h, hc⟩ := h
  exact ⟨cur, blk_other h hp, hc⟩
end

/-- the law's own books of what is taken, and of what it has -/
structure Rel (s : St) (hs : Nat → Int) (inn : Nat → Bool) : Prop where
  most : s.most = 8
  live : ∀ k, k < 8 → inn k = liveS s (k : Int)
  key : ∀ k, k < 8 → inn k = true → hasS s k 7 = hs k

structure Cw (w w' : World) (F : Nat → Prop) (pa pm hb ib : Nat) (s : St) (hs : Nat → Int) (inn : Nat → Bool) : Prop where
  hold : HoldA w w' F pa pm s
  outh : ¬ F hb
  outi : ¬ F ib
  newh : w.heap.size ≤ hb
  newi : w.heap.size ≤ ib
  ne : hb ≠ ib
  arrh : Arr w' hb 33 (fun k => .int .i64 (hs k))
  arri : Arr w' ib 34 (fun k => .bool (inn k))

section
variable {w w1 w2 : World} {F : Nat → Prop} {pa pm hb ib : Nat} {s s' : St} {hs : Nat → Int} {inn : Nat → Bool}
/-- a call of the arena's -/
theorem Cw.call (h : Cw w w1 F pa pm hb ib s hs inn) (hh : HoldA w w2 (Grow F w1 w2) pa pm s') (hk : Kept F w1 w2) : Cw w w2 (Grow F w1 w2) pa pm hb ib s' hs inn :=
  ⟨hh, fun e => e.elim h.outh fun e => by have := h.arrh.lt; omega, fun e => e.elim h.outi fun e => by have := h.arri.lt; omega, h.newh, h.newi, h.ne, h.arrh.kept hk h.outh, h.arri.kept hk h.outi⟩
theorem Cw.stay (h : Cw w w1 F pa pm hb ib s hs inn) (hh : HoldA w w2 F pa pm s') (hk : Kept F w1 w2) : Cw w w2 F pa pm hb ib s' hs inn :=
  ⟨hh, h.outh, h.outi, h.newh, h.newi, h.ne, h.arrh.kept hk h.outh, h.arri.kept hk h.outi⟩
theorem Cw.plain (h : Cw w w1 F pa pm hb ib s hs inn) (hk : Kept (fun _ => False) w1 w2) : Cw w w2 F pa pm hb ib s hs inn :=
  ⟨h.hold.plain hk, h.outh, h.outi, h.newh, h.newi, h.ne, h.arrh.kept hk fun e => e, h.arri.kept hk fun e => e⟩
theorem Cw.setIn (h : Cw w w1 F pa pm hb ib s hs inn) {k : Nat} (hk : k < 8) (b : Bool) : Cw w (w1.setCell ⟨ib, k, none⟩ (.bool b)) F pa pm hb ib s hs (fun j => if j = k then b else inn j) := by
  have hK : Kept (fun j => j = ib) w1 (w1.setCell ⟨ib, k, none⟩ (.bool b)) := (Kept.refl (fun j => j = ib) w1).setCell (p := ⟨ib, k, none⟩) (Or.inl rfl) _
  refine ⟨h.hold.other hK (fun j e => by rw [e]; exact h.newi) (fun j hj e => h.outi (e ▸ hj)), h.outh, h.outi, h.newh, h.newi, h.ne, h.arrh.other h.ne _, ?_⟩
  have := h.arri.set hk (.bool b)
  have e : (fun j => if j = k then Value.bool b else Value.bool (inn j)) = fun j => Value.bool (if j = k then b else inn j) := by funext j; split <;> rfl
  rwa [e] at this
theorem Cw.setHas (h : Cw w w1 F pa pm hb ib s hs inn) {k : Nat} (hk : k < 8) (v : Int) : Cw w (w1.setCell ⟨hb, k, none⟩ (.int .i64 v)) F pa pm hb ib s (fun j => if j = k then v else hs j) inn := by
  have hK : Kept (fun j => j = hb) w1 (w1.setCell ⟨hb, k, none⟩ (.int .i64 v)) := (Kept.refl (fun j => j = hb) w1).setCell (p := ⟨hb, k, none⟩) (Or.inl rfl) _
  refine ⟨h.hold.other hK (fun j e => by rw [e]; exact h.newh) (fun j hj e => h.outh (e ▸ hj)), h.outh, h.outi, h.newh, h.newi, h.ne, ?_, h.arri.other (Ne.symm h.ne) _⟩
  have := h.arrh.set hk (.int .i64 v)
  have e : (fun j => if j = k then Value.int .i64 v else Value.int .i64 (hs j)) = fun j => Value.int .i64 (if j = k then v else hs j) := by funext j; split <;> rfl
  rwa [e] at this
theorem Rel.tick (h : Rel s hs inn) : Rel (tick s) hs inn := ⟨h.most, h.live, h.key⟩
theorem Rel.give {c : Nat} (h : Rel s hs inn) (hl : liveS s (c : Int) = true) : Rel (Go.Proofs.Ytokmefgdbklepaa.tick (giveS s c)) hs (fun j => if j = c then false else inn j) := by
  obtain ⟨g1, g2, g3, g4⟩ := give_turns hl
  refine ⟨g3.trans h.most, fun k hk => ?_, fun k hk hi => ?_⟩
  · show _ = liveS (giveS s c) (k : Int)
    rw [g1 k]
    by_cases e : k = c
    · rw [if_pos e, if_pos e]
    · rw [if_neg e, if_neg e]; exact h.live k hk
  · show hasS (giveS s c) k 7 = hs k
    rw [g2 k]
    by_cases e : k = c
    · rw [if_pos e] at hi; cases hi
    · rw [if_neg e] at hi; exact h.key k hk hi
theorem Rel.take {k : Nat} {v : Int} (h : Rel s hs inn) (h1 : ∀ j : Nat, liveS (takeS s) (j : Int) = if j = k then true else liveS s (j : Int)) (h2 : ∀ j : Nat, hasS (takeS s) j = if j = k then fr else hasS s j) (h3 : (takeS s).most = s.most) :
    Rel (setS (Go.Proofs.Ytokmefgdbklepaa.tick (Go.Proofs.Ytokmefgdbklepaa.tick (takeS s))) k 7 v) (fun j => if j = k then v else hs j) (fun j => if j = k then true else inn j) := by
  have hl : liveS (Go.Proofs.Ytokmefgdbklepaa.tick (Go.Proofs.Ytokmefgdbklepaa.tick (takeS s))) (k : Int) = true := by
    show liveS (takeS s) (k : Int) = true
    rw [h1 k, if_pos rfl]
  obtain ⟨g1, g2, g3, g4⟩ := set_turns (f := 7) (v := v) (by decide) hl
  refine ⟨(g3.trans h3).trans h.most, fun j hj => ?_, fun j hj hi => ?_⟩
  · rw [show ((7 : Int)) = ((7 : Nat) : Int) from rfl, g1 j]
    show _ = liveS (takeS s) (j : Int)
    rw [h1 j]
    by_cases e : j = k
    · rw [if_pos e, if_pos e]
    · rw [if_neg e, if_neg e]; exact h.live j hj
  · rw [show ((7 : Int)) = ((7 : Nat) : Int) from rfl, g2 j]
    by_cases e : j = k
    · rw [if_pos e, if_pos e]
      simp [upd]
    · rw [if_neg e, if_neg e]
      show hasS (takeS s) j 7 = hs j
      rw [h2 j, if_neg e]
      rw [if_neg e] at hi
      exact h.key j hj hi
end

theorem liveQ (pa pm : Nat) (s : St) (F : Nat → Prop) (c : Int) {w : World} {b : Bool} (h : IsA w F pa pm s) (hb : liveS s c = b) :
    Calls Try.prog 17 #[.pointer (some ⟨pa, 0, none⟩), .int .i64 c] w fun e w' => e = .returned (.bool b) ∧ ∃ n, w' = w.drewN n :=
  (liveA pa pm s F c w h).mono fun _ _ ⟨h1, h2⟩ => ⟨by rw [h1, hb], 0, h2⟩

set_option maxRecDepth 100000 in
set_option maxHeartbeats 4000000 in
theorem cells_walk (a : Option Addr) (cap : Nat) (l : List Ask) (w : World) (hI : ∀ q ∈ l, askI q) (hC : Came w a 4 ask4 l) :
    Calls Try.prog 5 #[.slice a l.length cap] w fun e w' => e = .returned (.bool true) ∧ Below w.heap.size w w' := by
  have HC := hid hC
  have HI := hid hI
  clear hC hI
  go_enter Try.func5, Try.ntmps5
  go_wp2_with fail
  refine (newAH 8 w).mono ?_
  rintro e w1 ⟨F, pa, pm, rfl, h1⟩
  rw [show st0 8 = ⟨8, [], [], 0⟩ from rfl] at h1
  have H1 := hid h1
  clear h1
  go_wp2_with fail
  have C1 : Cw w ((w1.alloc (.cells #[.int .i64 0, .int .i64 0, .int .i64 0, .int .i64 0, .int .i64 0, .int .i64 0, .int .i64 0, .int .i64 0] 33)).alloc (.cells #[.bool false, .bool false, .bool false, .bool false, .bool false, .bool false, .bool false, .bool false] 34)) F pa pm w1.heap.size (w1.heap.size + 1) ⟨8, [], [], 0⟩ (fun _ => 0) (fun _ => false) := by
    have e : (w1.alloc (.cells #[.int .i64 0, .int .i64 0, .int .i64 0, .int .i64 0, .int .i64 0, .int .i64 0, .int .i64 0, .int .i64 0] 33)).heap.size = w1.heap.size + 1 := by simp
    have hlt := H1.out.is.lt
    refine ⟨H1.out.plain (((Kept.refl _ _).alloc _).alloc _), fun q => by have := hlt _ q; omega, fun q => by have := hlt _ q; omega, H1.out.bel.size, Nat.le_succ_of_le H1.out.bel.size, by omega, ⟨_, (Below.heap_alloc _ _ _ (by simp)).trans (heap_alloc_new w1 _), fun k hk => ?_⟩, ⟨_, by rw [← e]; exact heap_alloc_new _ _, fun k hk => ?_⟩⟩
    · match k, hk with
      | 0, _ | 1, _ | 2, _ | 3, _ | 4, _ | 5, _ | 6, _ | 7, _ => rfl
    · match k, hk with
      | 0, _ | 1, _ | 2, _ | 3, _ | 4, _ | 5, _ | 6, _ | 7, _ => rfl
  have CC1 := hid C1
  clear C1 H1
  obtain ⟨hb, hhb⟩ : ∃ hb, hb = w1.heap.size := ⟨_, rfl⟩
  obtain ⟨ib, hib⟩ : ∃ ib, ib = w1.heap.size + 1 := ⟨_, rfl⟩
  rw [← hib, ← hhb] at CC1
  rw [← hib, ← hhb]
  clear hhb hib
  go_loopw [6] (fun iv wr => ∃ (i : Nat) (F : Nat → Prop) (s : St) (hs : Nat → Int) (inn : Nat → Bool), iv = .int .i64 i ∧ i ≤ 60 ∧ s.steps ≤ 20 * i ∧ Cw w wr F pa pm hb ib s hs inn ∧ Rel s hs inn) (fun i _ => 60 - (intOf i).toNat)
  case atStart => exact ⟨0, F, _, _, _, rfl, by decide, Nat.zero_le _, CC1.out, ⟨rfl, fun k _ => by rw [live_nat]; simp, fun k _ q => by cases q⟩⟩
  case round =>
    clear CC1 F
    obtain ⟨i, F, s, hs, inn, rfl, hi, hst, hCw, hRl⟩ := hrel
    have CW := hid hCw
    have RL := hid hRl
    clear hCw hRl
    rcases (by omega : (i < l.length ∧ i < 60) ∨ ((l.length ≤ i) ∨ (i < l.length ∧ 60 ≤ i))) with hh | hh
    · obtain ⟨hh1, hh2⟩ := hh
      have hx : l[i]? = some l[i] := List.getElem?_eq_getElem hh1
      obtain ⟨b0, off, ee, hb0, hc0⟩ := HC.out.get CW.out.hold.bel hx
      subst ee
      have hIq := HI.out l[i] (List.getElem_mem hh1)
      generalize l[i] = y at hx hc0 hIq
      obtain ⟨kd, qc, qf, qv⟩ := y
      have d0 : wr.cell? ⟨b0, off + i * 4, none⟩ = some (.int .i64 kd) := by simpa [ask4] using hc0 0 (by decide)
      have d1 : wr.cell? ⟨b0, off + i * 4 + 1, none⟩ = some (.int .i64 qc) := by simpa [ask4, Nat.add_assoc] using hc0 1 (by decide)
      have hbr : b0 < wr.heap.size := Nat.lt_of_lt_of_le hb0 CW.out.hold.bel.size
      have hbF : ¬ F b0 := fun e => by have := CW.out.hold.new _ e; omega
      have hh1' : (i : Int) < (l.length : Int) := by omega
      have hh2' : (i : Int) < 60 := by omega
      obtain ⟨wq, hwq⟩ : ∃ wq, wq = wr := ⟨wr, rfl⟩
      subst hwq
      have hqc : I64 qc := hIq.2.1
      clear hx hc0 hh1 hIq
      go_wp2_with fail
      refine (within_any qc hqc 0 7 (by decide) (by decide) (by decide) wq).mono ?_
      rintro e w3 ⟨c0, rfl, hc0, hc7, rfl⟩
      obtain ⟨c, rfl⟩ : ∃ c : Nat, c0 = (c : Int) := ⟨c0.toNat, by omega⟩
      have hc8 : c < 8 := by omega
      have i0 := CW.out.arri.cell hc8
      have i1 := CW.out.arri.lt
      go_upto_region 10 with fail
      go_cut [42] from 31 to 41 (fun v wx => ∃ b, v = .bool b ∧ (b = true → inn c = true) ∧ wx = w3)
      case first =>
        rcases hin : inn c with _ | _
        · rw [hin] at i0
          go_wp2_with fail
          go_meet
          case rel => exact ⟨false, rfl, fun e => (by cases e), rfl⟩
        · rw [hin] at i0
          go_wp2_with fail
          all_goals
            go_meet
            case rel => exact ⟨_, rfl, fun _ => hin, rfl⟩
      case rest =>
        obtain ⟨b, rfl, hbi, rfl⟩ := hcut
        go_upto_if 42 with fail
        go_cut [8, 9] from 43 to 94 (fun _ _ wx => ∃ (F4 : Nat → Prop) (s4 : St) (hs4 : Nat → Int) (inn4 : Nat → Bool), s4.steps ≤ 20 * i + 4 ∧ Cw w wx F4 pa pm hb ib s4 hs4 inn4 ∧ Rel s4 hs4 inn4)
        case first =>
          cases b with
          | true =>
            have hin := hbi rfl
            have hlv : liveS s (c : Int) = true := by rw [← RL.out.live c hc8]; exact hin
            have LV := hid hlv
            clear hbi hlv d0 d1 i0
            go_wp2_with fail
            refine (giveAH (c : Int) CW.out.hold (by omega)).mono ?_
            rw [LV.out]
            rintro e w4 ⟨rfl, h4, k4⟩
            have C4 := hid (CW.out.call h4 k4)
            generalize Grow F wc w4 = F4 at C4
            clear h4 k4 CW
            go_wp2_with fail
            refine (giveAH (c : Int) C4.out.hold (by have := (give_turns LV.out).2.2.2; omega)).mono ?_
            rw [(give_turns LV.out).1 c, if_pos rfl, give_no (by rw [(give_turns LV.out).1 c, if_pos rfl])]
            rintro e w5 ⟨rfl, h5, k5⟩
            have C5 := hid (C4.out.call h5 k5)
            generalize Grow F4 w4 w5 = F5 at C5
            have j0 := C5.out.arri.cell hc8
            have j1 := C5.out.arri.free (k := c)
            have j2 := C5.out.arri.lt
            clear h5 k5 C4
            go_wp2_with fail
            go_meet
            case rel => exact ⟨F5, _, hs, _, by have := (give_turns LV.out).2.2.2; show (giveS s c).steps + 1 ≤ _; omega, C5.out.setIn hc8 false, RL.out.give LV.out⟩
          | false =>
            clear hbi d0 d1 i0
            go_wp2_with fail
            refine (takeAH CW.out.hold (by omega)).mono ?_
            rcases take_cases CW.out.hold.is.ok with ⟨t1, t2⟩ | ⟨k, t1, t2, t3, t4, t5, t6, t7⟩
            · rw [t1, t2]
              rintro e w4 ⟨rfl, h4, k4⟩
              have C4 := hid (CW.out.call h4 k4)
              generalize Grow F wc w4 = F4 at C4
              clear h4 k4 CW t1 t2
              go_wp2_with fail
              go_meet
              case rel => exact ⟨F4, _, hs, inn, by show s.steps + 1 ≤ _; omega, C4.out, RL.out.tick⟩
            · rw [t1]
              rintro e w4 ⟨rfl, h4, k4⟩
              have C4 := hid (CW.out.call h4 k4)
              generalize Grow F wc w4 = F4 at C4
              have hk8 : k < 8 := by rw [RL.out.most] at t2; exact t2
              have j0 := C4.out.arri.cell hk8
              have j1 := C4.out.arri.lt
              have hik : inn k = false := by rw [RL.out.live k hk8]; exact t3
              rw [hik] at j0
              have hlv : liveS (takeS s) (k : Int) = true := by rw [t4 k, if_pos rfl]
              have G7 := hid (show getS (takeS s) (k : Int) 7 = 0 by rw [show (7 : Int) = ((7 : Nat) : Int) from rfl, get_live (by decide) hlv, t5 k, if_pos rfl]; rfl)
              have G9 := hid (show getS (takeS s) (k : Int) 9 = -1 by rw [show (9 : Int) = ((9 : Nat) : Int) from rfl, get_live (by decide) hlv, t5 k, if_pos rfl]; rfl)
              have LV := hid hlv
              have T4 := hid t4
              have T5 := hid t5
              have T6 := hid t6
              have T7 := hid t7
              clear h4 k4 CW t1 t2 t3 t4 t5 t6 t7 hlv hik
              go_wp2_with fail
              refine (getAH (k : Int) 7 C4.out.hold (by have := T7.out; omega)).mono ?_
              rw [G7.out]
              rintro e w5 ⟨rfl, h5, k5⟩
              have C5 := hid (C4.out.stay h5 k5)
              clear h5 k5 C4 j0 j1
              go_wp2_with fail
              refine (getAH (k : Int) 9 C5.out.hold (by have := T7.out; show (takeS s).steps + 1 ≤ _; omega)).mono ?_
              rw [get_tick, G9.out]
              rintro e w6 ⟨rfl, h6, k6⟩
              have C6 := hid (C5.out.stay h6 k6)
              clear h6 k6 C5
              have j0 := C6.out.arri.cell hk8
              have j1 := C6.out.arri.free (k := k)
              have j2 := C6.out.arri.lt
              have j3 := C6.out.arrh.cell hk8
              have j4 := C6.out.arrh.free (k := k)
              have j5 := C6.out.arrh.lt
              have hne := C6.out.ne
              have hne' : ib ≠ hb := fun e => hne e.symm
              go_wp2_with fail
              have C7 := hid ((C6.out.setIn hk8 true).setHas hk8 ((i : Int) + 1))
              clear j0 j1 j2 j3 j4 j5 C6
              refine (setAH (k : Int) 7 ((i : Int) + 1) C7.out.hold (by have := T7.out; show (takeS s).steps + 1 + 1 ≤ _; omega)).mono ?_
              rintro e w7 ⟨rfl, h7, k7⟩
              have C8 := hid (C7.out.stay h7 k7)
              clear h7 k7 C7
              go_wp2_with fail
              go_meet
              case rel => exact ⟨F4, _, _, _, by have e7 : (setS (tick (tick (takeS s))) (k : Int) 7 ((i : Int) + 1)).steps = (tick (tick (takeS s))).steps + 1 := (set_turns (s := tick (tick (takeS s))) (f := 7) (v := (i : Int) + 1) (by decide) LV.out).2.2.2; have q : (tick (tick (takeS s))).steps = (takeS s).steps + 1 + 1 := rfl; have := T7.out; omega, C8.out, RL.out.take T4.out T5.out T6.out⟩
        case rest =>
          obtain ⟨F4, s4, hs4, inn4, hst4, hC4, hR4⟩ := hcut
          have C4 := hid hC4
          have R4 := hid hR4
          clear hC4 hR4 CW RL d0 d1 i0 hbF hbi
          obtain ⟨wz, hwz⟩ : ∃ wz, wz = wc := ⟨wc, rfl⟩
          go_wp2_with fail
          go_loopw [10, 11] (fun nv kv wr => ∃ (k st : Nat), kv = .int .i64 k ∧ k ≤ 8 ∧ nv = .int .i64 (cnt (s4.pl.take k) : Int) ∧ st ≤ 20 * i + 4 + k ∧ Cw w wr F4 pa pm hb ib ⟨s4.most, s4.pl, s4.back, st⟩ hs4 inn4) (fun _ k _ => 8 - (intOf k).toNat)
          case atStart => exact ⟨0, s4.steps, rfl, by decide, by simp [cnt], by omega, C4.out⟩
          case round =>
            clear C4
            obtain ⟨k, st, rfl, hk, rfl, hst5, hC5⟩ := hrel
            have C5 := hid hC5
            clear hC5
            by_cases hk8 : k < 8
            · have j0 := C5.out.arri.cell hk8
              have j3 := C5.out.arrh.cell hk8
              have j1 := C5.out.arri.lt
              have j2 := C5.out.arrh.lt
              have o1 := C5.out.outi
              have o2 := C5.out.outh
              have LVE : Hid (liveS ⟨s4.most, s4.pl, s4.back, st⟩ (k : Int) = inn4 k) := (R4.out.live k hk8).symm
              have CT := hid (cnt_take s4.pl k)
              have LN := hid (live_nat (s := s4) (j := k))
              have cb : cnt (s4.pl.take k) ≤ 8 := by
                have := cnt_le (s4.pl.take k)
                simp at this
                omega
              obtain ⟨n, hn⟩ : ∃ n, n = cnt (s4.pl.take k) := ⟨_, rfl⟩
              rw [← hn] at CT cb ⊢
              have hk8' : (k : Int) < 8 := by omega
              have LM := hid ((LN.out.symm.trans (R4.out.live k hk8).symm))
              have CE : Hid (cnt (s4.pl.take (k + 1)) = n + (inn4 k).toNat) := by
                have q := CT.out
                rw [LM.out] at q
                exact q
              clear hn CT LN LM
              cases hin : inn4 k with
              | true =>
                rw [hin] at j0 LVE CE
                have GE := hid (show getS ⟨s4.most, s4.pl, s4.back, st⟩ (k : Int) 7 = hs4 k by rw [show (7 : Int) = ((7 : Nat) : Int) from rfl, get_live (by decide) LVE.out]; exact R4.out.key k hk8 hin)
                generalize hs4 k = hv at j3 GE
                clear hin
                go_wp2_with fail
                go_region_held3 (fun w' => w'.cell? ⟨ib, k, none⟩ = some (.bool true) ∧ w'.cell? ⟨hb, k, none⟩ = some (.int .i64 hv)) (first | exact ⟨e0, e3⟩ | exact ⟨j0, j3⟩)
                  (first
                    | (go_at_call 17; refine (liveA pa pm _ F4 (k : Int) _ (by exact (C5.out.plain ((Kept.refl _ _).drewN 1)).hold.is)).mono ?_; rw [LVE.out]; rintro e w6 ⟨rfl, rfl⟩)
                    | (go_at_call 15; refine (getAH (k : Int) 7 (by exact (C5.out.plain ((Kept.refl _ _).drewN 1)).hold) (by show st ≤ _; omega)).mono ?_; rw [GE.out]; rintro e w7 ⟨rfl, h7, k7⟩; have e0 := (k7.cell (p := ⟨ib, k, none⟩) j1 o1).trans j0; have e3 := (k7.cell (p := ⟨hb, k, none⟩) j2 o2).trans j3; have l0 : ib < w7.heap.size := Nat.lt_of_lt_of_le j1 k7.size; have C7 := hid ((C5.out.plain ((Kept.refl _ _).drewN 1)).stay h7 k7); clear h7 k7))
                all_goals
                  clear j0 j3 e3 C5
                  go_wp2
                  go_roundw
                  case rel => exact ⟨k + 1, st + 1, by go_num, by omega, by rw [CE.out]; go_num, by omega, C7.out⟩
                  case measure => simp [intOf]; omega
              | false =>
                rw [hin] at j0 LVE CE
                clear hin
                have LQ := hid (fun n => liveQ pa pm _ F4 (k : Int) (C5.out.plain ((Kept.refl _ _).drewN n)).hold.is LVE.out)
                go_wp2_with fail
                go_quiet (first
                  | (go_at_call 17; refine Calls.quiet_of (LQ.out _)))
                go_wp2
                go_roundw
                case rel => exact ⟨k + 1, st, by go_num, by omega, by rw [CE.out]; go_num, by omega, C5.out.plain ((Kept.refl _ _).drewN _)⟩
                case measure => simp [intOf]; omega
            · obtain rfl : k = 8 := by omega
              have hl8 : s4.pl.length ≤ 8 := by have := C5.out.hold.is.ok.fits; have q := R4.out.most; simp only [] at this; omega
              have E8 := hid (show cnt (s4.pl.take 8) = cnt s4.pl by rw [List.take_of_length_le hl8])
              have cb : cnt (s4.pl.take 8) ≤ 8 := by
                have := cnt_le (s4.pl.take 8)
                simp at this
                omega
              obtain ⟨n, hn⟩ : ∃ n, n = cnt (s4.pl.take 8) := ⟨_, rfl⟩
              rw [← hn] at E8 cb ⊢
              clear hn
              go_wp2_with fail
              refine (lenA pa pm _ F4 _ C5.out.hold.is).mono ?_
              rw [show cnt (St.pl ⟨s4.most, s4.pl, s4.back, st⟩) = n from E8.out.symm]
              rintro e w9 ⟨rfl, d, rfl⟩
              have C9 := hid (C5.out.plain ((Kept.refl _ _).drewN d))
              clear C5
              go_wp2
              go_roundw
              case rel => exact ⟨i + 1, F4, _, hs4, inn4, by go_num, by omega, by show st ≤ _; omega, C9.out, ⟨R4.out.most, R4.out.live, R4.out.key⟩⟩
              case measure => simp [intOf]; omega
    · have hdone : ¬ i < l.length ∨ (i < l.length ∧ ¬ i < 60) := by
        rcases hh with hh | ⟨hh, hh'⟩
        · exact Or.inl (by omega)
        · exact Or.inr ⟨hh, by omega⟩
      clear hh
      rcases hdone with c1 | ⟨c1, c2⟩
      all_goals
        go_wp2_with fail
        refine (known_any _).mono ?_
        rintro e w7 ⟨rfl, hb7⟩
        have B7 := hid (CW.out.hold.bel.trans (hb7.mono CW.out.hold.bel.size))
        clear hb7 CW
        go_wp2
        go_ret
        exact ⟨rfl, B7.out⟩
end Go.Proofs.Ytokmefgdbklepaa
