/- The walk of RingOrder. -/
import Derived.Test.YtokjachnbipjjaaMn
namespace Go.Proofs.Ytokjachnbipjjaa
open Go.ChangeShapes Go.WideShapes Go.ChangeAt Go.RowKit

/-- what went in and what came out, two slices of the law's own -/
structure Two (w0 w : World) (F : Nat → Prop) (iv ov : Value) (ins outs : List ByteArray) : Prop where
  i : Mine w0 w F 9 1 iv ins.length (row oneT ins)
  o : Mine w0 w F 9 1 ov outs.length (row oneT outs)
  ap : ∀ k, iv.ownBlock = some k → ov.ownBlock ≠ some k

section
variable {w0 w w' : World} {F : Nat → Prop} {iv ov : Value} {ins outs : List ByteArray}
theorem Two.nil (w0 w : World) (F : Nat → Prop) : Two w0 w F (.slice none 0 0) (.slice none 0 0) [] [] := ⟨Mine.nil _ _ _ _ _, Mine.nil _ _ _ _ _, fun k hk => by cases hk⟩
theorem Two.call (h : Two w0 w F iv ov ins outs) (k : Kept F w w') : Two w0 w' (Grow F w w') iv ov ins outs := ⟨h.i.call k, h.o.call k, h.ap⟩
theorem Two.plain (h : Two w0 w F iv ov ins outs) (k : Kept (fun _ => False) w w') : Two w0 w' F iv ov ins outs := ⟨h.i.plain k, h.o.plain k, h.ap⟩
theorem Two.pushI {g cap : Nat} {x : ByteArray} (h : Two w0 w F iv ov ins outs) (hg : w.grownBy w' iv.ownBlock) (ho : w'.ownsRow 0 9 1 (.slice (some ⟨g, 0, none⟩) (ins.length + 1) cap) (ins.length + 1) (row oneT ins ++ oneT x)) (hat : iv.ownBlock = some g ∨ g = w.heap.size) (hF : ∀ k, F k → k < w.heap.size) (hB : w0.heap.size ≤ w.heap.size) :
    Two w0 w' F (.slice (some ⟨g, 0, none⟩) (ins.length + 1) cap) ov (ins ++ [x]) outs := by
  refine ⟨?_, h.o.other (kept_of_grown hg) fun i hi q => h.ap i q hi, fun k hk q => ?_⟩
  · have := h.i.pushed hg ho hat hF hB
    rw [row_snoc, List.length_append]
    exact this
  · cases hk
    rcases hat with e | e
    · exact h.ap g e q
    · have := h.o.lt g q; omega
theorem Two.pushO {g cap : Nat} {x : ByteArray} (h : Two w0 w F iv ov ins outs) (hg : w.grownBy w' ov.ownBlock) (ho : w'.ownsRow 0 9 1 (.slice (some ⟨g, 0, none⟩) (outs.length + 1) cap) (outs.length + 1) (row oneT outs ++ oneT x)) (hat : ov.ownBlock = some g ∨ g = w.heap.size) (hF : ∀ k, F k → k < w.heap.size) (hB : w0.heap.size ≤ w.heap.size) :
    Two w0 w' F iv (.slice (some ⟨g, 0, none⟩) (outs.length + 1) cap) ins (outs ++ [x]) := by
  refine ⟨h.i.other (kept_of_grown hg) fun i hi q => h.ap i hi q, ?_, fun k hk q => ?_⟩
  · have := h.o.pushed hg ho hat hF hB
    rw [row_snoc, List.length_append]
    exact this
  · cases q
    rcases hat with e | e
    · exact h.ap g hk e
    · have := h.i.lt g hk; omega
end

def bl1 (b : Bool) : List Value := [.bool b]

set_option maxHeartbeats 4000000 in
theorem order_walk (p : Int) (hp : I64 p) (a : Option Addr) (cap : Nat) (l : List ByteArray) (b : Option Addr) (bcap : Nat) (ps : List Bool) (w : World) (hC : Came w a 1 oneT l) (hD : Came w b 1 bl1 ps) :
    Calls Try.prog 5 #[.int .i64 p, .slice a l.length cap, .slice b ps.length bcap] w fun e w' => e = .returned (.bool true) ∧ Below w.heap.size w w' := by
  obtain ⟨ti, hti, hz0, hz1, hz2⟩ := info_parts infoT
  have HT := hid hti
  have Z0 := hid hz0
  have Z1 := hid hz1
  have Z2 := hid hz2
  have HC := hid hC
  have HD := hid hD
  clear hti hz0 hz1 hz2 hC hD
  go_enter Try.func5, Try.ntmps5
  go_wp2_with fail
  refine (within_any p hp 1 10 (by decide) (by decide) w).mono ?_
  rintro e w1 ⟨n, rfl, hn1, hn2, rfl⟩
  go_wp2_with fail
  refine (newTH n w1).mono ?_
  rintro e w2 ⟨F, pa, rfl, h2⟩
  rw [room0_nat hn1 (by omega)] at h2
  have H2 := hid h2
  clear h2
  go_wp2
  go_loopw [8, 9, 10] (fun nv ov iv wr => ∃ (i : Nat) (F : Nat → Prop) (ins outs q : List ByteArray), iv = .int .i64 i ∧ i ≤ 50 ∧ ins = outs ++ q ∧ ins.length ≤ i ∧ HoldT w1 wr F pa n q ∧ Two w1 wr F nv ov ins outs) (fun _ _ i _ => 50 - (intOf i).toNat)
  case atStart => exact ⟨0, F, [], [], [], rfl, by decide, rfl, Nat.le_refl _, H2.out, Two.nil _ _ _⟩
  case round =>
    clear H2 F
    obtain ⟨i, F, ins, outs, q, rfl, hi, hio, hil, hH, hT⟩ := hrel
    have HH := hid hH
    have TT := hid hT
    have IO := hid hio
    clear hH hT hio
    have hol : outs.length ≤ i := by have := IO.out; have := congrArg List.length this; simp at this; omega
    rcases (by omega : (i < l.length ∧ i < 50) ∨ ((l.length ≤ i) ∨ (i < l.length ∧ 50 ≤ i))) with hh | hh
    · obtain ⟨hh1, hh2⟩ := hh
      have hx : l[i]? = some l[i] := List.getElem?_eq_getElem hh1
      obtain ⟨b0, off, ee, hb0, hc0⟩ := HC.out.get HH.out.bel hx
      subst ee
      generalize l[i] = x at hx hc0
      have k0 : wr.cell? ⟨b0, off + i, none⟩ = some (.string x) := by simpa [oneT] using hc0 0 (by decide)
      have hbr : b0 < wr.heap.size := Nat.lt_of_lt_of_le hb0 HH.out.bel.size
      have hh1' : (i : Int) < (l.length : Int) := by omega
      clear hx hc0
      rcases Nat.lt_or_ge i ps.length with hpi | hpi
      · have hy : ps[i]? = some ps[i] := List.getElem?_eq_getElem hpi
        obtain ⟨pb, poff, ee, hpb, hpc⟩ := HD.out.get (Below.refl _ _) hy
        subst ee
        have hpc0 : w1.cell? ⟨pb, poff + i, none⟩ = some (.bool ps[i]) := by simpa [bl1] using hpc 0 (by decide)
        have hpi' : (i : Int) < (ps.length : Int) := by omega
        cases hyv : ps[i] with
        | false =>
          as_aux_lemma =>
            rw [hyv] at hpc0
            clear hpc hy hyv hpi
            by_cases hq : q.length < n
            · go_wp2_with fail
              refine (pushTH x HH.out).mono ?_
              rw [decide_eq_true hq, if_pos hq]
              rintro e w3 ⟨rfl, h3, k3⟩
              have t3 := TT.out.call k3
              have k0' : w3.cell? ⟨b0, off + i, none⟩ = some (.string x) := (k3.cell (p := ⟨b0, off + i, none⟩) hbr (fun e => by have := HH.out.new _ e; simp at this; omega)).trans k0
              have hbr3 : b0 < w3.heap.size := Nat.lt_of_lt_of_le hbr k3.size
              generalize Grow F wr w3 = F4 at h3 t3
              have IO4 := hid (show ins ++ [x] = outs ++ (q ++ [x]) by rw [IO.out]; simp)
              generalize q ++ [x] = q4 at h3 IO4
              have H3 := hid h3
              have T3 := hid t3
              clear h3 t3 k3 HH TT k0 hbr
              go_wp2_with (at_builtin; refine wpList_append_lies _ rfl (.tmp 34) (.tmp 39) 32 rfl 0 9 ti _ 1 16 Try.underlying32 HT.out Z0.out Z1.out Z2.out rfl (by decide) u8 ins.length (row oneT ins) rfl (World.ownsRow.alloc T3.out.i.own _) ⟨w3.heap.size, 0, none⟩ 1 1 (oneT x) rfl rfl (World.news_of_block (heap_alloc_new w3 _)) (oneT_one _) (by decide) (by simp [maxLen]; omega) (by omega) (Nat.zero_le _) (w3.heap.size + 1) (by simp) ?_; intro g4 c4 w4 ho hgr hat hlt; have T4 := hid ((T3.out.plain (knew _ _)).pushI hgr ho (hat.imp id fun e => by rw [e]; simp) (H3.out.plain (knew _ _)).is.lt (H3.out.plain (knew _ _)).bel.size); have H4 := hid ((H3.out.plain (knew _ _)).grown (T3.out.plain (knew _ _)).i hgr); have e4 := (H4.out.bel.cell (p := ⟨pb, poff + i, none⟩) hpb).trans hpc0; have hpb4 := Nat.lt_of_lt_of_le hpb H4.out.bel.size; clear ho hgr hat hlt H3 T3 k0' hbr3)
              have hl4 : (ins ++ [x]).length ≤ i + 1 := by simp; omega
              generalize ins ++ [x] = ins4 at *
              go_roundw
              case rel => exact ⟨i + 1, F4, ins4, outs, q4, by go_num, by omega, IO4.out, hl4, H4.out, T4.out⟩
              case measure => simp [intOf]; omega
            · go_wp2_with fail
              refine (pushTH x HH.out).mono ?_
              rw [decide_eq_false hq, if_neg hq]
              rintro e w4 ⟨rfl, h4, k4⟩
              have t4 := TT.out.call k4
              generalize Grow F wr w4 = F4 at h4 t4
              obtain ⟨ins4, rfl⟩ : ∃ ins4, ins4 = ins := ⟨_, rfl⟩
              obtain ⟨q4, rfl⟩ : ∃ q4, q4 = q := ⟨_, rfl⟩
              have IO4 := IO
              have H4 := hid h4
              have T4 := hid t4
              have e4 := (H4.out.bel.cell (p := ⟨pb, poff + i, none⟩) hpb).trans hpc0
              have hpb4 := Nat.lt_of_lt_of_le hpb H4.out.bel.size
              clear h4 t4 k4 HH TT k0 hbr
              have hl4 : ins4.length ≤ i + 1 := by omega
              go_wp2
              go_roundw
              case rel => exact ⟨i + 1, F4, ins4, outs, q4, by go_num, by omega, IO4.out, hl4, H4.out, T4.out⟩
              case measure => simp [intOf]; omega
        | true =>
          as_aux_lemma =>
            rw [hyv] at hpc0
            clear hpc hy hyv hpi
            by_cases hq : q.length < n
            · go_wp2_with fail
              refine (pushTH x HH.out).mono ?_
              rw [decide_eq_true hq, if_pos hq]
              rintro e w3 ⟨rfl, h3, k3⟩
              have t3 := TT.out.call k3
              have k0' : w3.cell? ⟨b0, off + i, none⟩ = some (.string x) := (k3.cell (p := ⟨b0, off + i, none⟩) hbr (fun e => by have := HH.out.new _ e; simp at this; omega)).trans k0
              have hbr3 : b0 < w3.heap.size := Nat.lt_of_lt_of_le hbr k3.size
              generalize Grow F wr w3 = F4 at h3 t3
              have IO4 := hid (show ins ++ [x] = outs ++ (q ++ [x]) by rw [IO.out]; simp)
              generalize q ++ [x] = q4 at h3 IO4
              have H3 := hid h3
              have T3 := hid t3
              clear h3 t3 k3 HH TT k0 hbr
              go_wp2_with (at_builtin; refine wpList_append_lies _ rfl (.tmp 34) (.tmp 39) 32 rfl 0 9 ti _ 1 16 Try.underlying32 HT.out Z0.out Z1.out Z2.out rfl (by decide) u8 ins.length (row oneT ins) rfl (World.ownsRow.alloc T3.out.i.own _) ⟨w3.heap.size, 0, none⟩ 1 1 (oneT x) rfl rfl (World.news_of_block (heap_alloc_new w3 _)) (oneT_one _) (by decide) (by simp [maxLen]; omega) (by omega) (Nat.zero_le _) (w3.heap.size + 1) (by simp) ?_; intro g4 c4 w4 ho hgr hat hlt; have T4 := hid ((T3.out.plain (knew _ _)).pushI hgr ho (hat.imp id fun e => by rw [e]; simp) (H3.out.plain (knew _ _)).is.lt (H3.out.plain (knew _ _)).bel.size); have H4 := hid ((H3.out.plain (knew _ _)).grown (T3.out.plain (knew _ _)).i hgr); have e4 := (H4.out.bel.cell (p := ⟨pb, poff + i, none⟩) hpb).trans hpc0; have hpb4 := Nat.lt_of_lt_of_le hpb H4.out.bel.size; clear ho hgr hat hlt H3 T3 k0' hbr3)
              have hl4 : (ins ++ [x]).length ≤ i + 1 := by simp; omega
              generalize ins ++ [x] = ins4 at *
              cases q4 with
              | nil =>
                refine (popNilT pa n F4 w4 H4.out.is).mono ?_
                rintro e w5 ⟨rfl, rfl⟩
                go_wp2
                go_roundw
                case rel => exact ⟨i + 1, F4, ins4, outs, [], by go_num, by omega, IO4.out, hl4, H4.out, T4.out⟩
                case measure => simp [intOf]; omega
              | cons x q5 =>
                refine (popTH H4.out).mono ?_
                rintro e w5 ⟨rfl, h5, k5⟩
                have t5 := T4.out.call k5
                generalize Grow F4 w4 w5 = F5 at h5 t5
                have H5 := hid h5
                have T5 := hid t5
                clear h5 t5 k5 H4 T4
                go_wp2_with (at_builtin; refine wpList_append_lies _ rfl (.tmp 57) (.tmp 59) 32 rfl 0 9 ti _ 1 16 Try.underlying32 HT.out Z0.out Z1.out Z2.out rfl (by decide) u9 outs.length (row oneT outs) rfl (World.ownsRow.alloc T5.out.o.own _) ⟨w5.heap.size, 0, none⟩ 1 1 (oneT x) rfl rfl (World.news_of_block (heap_alloc_new w5 _)) (oneT_one _) (by decide) (by simp [maxLen]; omega) (by omega) (Nat.zero_le _) (w5.heap.size + 1) (by simp) ?_; intro g6 c6 w6 ho hgr hat hlt; have T6 := hid ((T5.out.plain (knew _ _)).pushO hgr ho (hat.imp id fun e => by rw [e]; simp) (H5.out.plain (knew _ _)).is.lt (H5.out.plain (knew _ _)).bel.size); have H6 := hid ((H5.out.plain (knew _ _)).grown (T5.out.plain (knew _ _)).o hgr); clear ho hgr hat hlt H5 T5)
                go_roundw
                case rel => exact ⟨i + 1, F5, ins4, outs ++ [x], q5, by go_num, by omega, by rw [IO4.out]; simp, hl4, H6.out, T6.out⟩
                case measure => simp [intOf]; omega
            · go_wp2_with fail
              refine (pushTH x HH.out).mono ?_
              rw [decide_eq_false hq, if_neg hq]
              rintro e w4 ⟨rfl, h4, k4⟩
              have t4 := TT.out.call k4
              generalize Grow F wr w4 = F4 at h4 t4
              obtain ⟨ins4, rfl⟩ : ∃ ins4, ins4 = ins := ⟨_, rfl⟩
              obtain ⟨q4, rfl⟩ : ∃ q4, q4 = q := ⟨_, rfl⟩
              have IO4 := IO
              have H4 := hid h4
              have T4 := hid t4
              have e4 := (H4.out.bel.cell (p := ⟨pb, poff + i, none⟩) hpb).trans hpc0
              have hpb4 := Nat.lt_of_lt_of_le hpb H4.out.bel.size
              clear h4 t4 k4 HH TT k0 hbr
              have hl4 : ins4.length ≤ i + 1 := by omega
              go_wp2_with fail
              cases q4 with
              | nil =>
                refine (popNilT pa n F4 w4 H4.out.is).mono ?_
                rintro e w5 ⟨rfl, rfl⟩
                go_wp2
                go_roundw
                case rel => exact ⟨i + 1, F4, ins4, outs, [], by go_num, by omega, IO4.out, hl4, H4.out, T4.out⟩
                case measure => simp [intOf]; omega
              | cons x q5 =>
                refine (popTH H4.out).mono ?_
                rintro e w5 ⟨rfl, h5, k5⟩
                have t5 := T4.out.call k5
                generalize Grow F4 w4 w5 = F5 at h5 t5
                have H5 := hid h5
                have T5 := hid t5
                clear h5 t5 k5 H4 T4
                go_wp2_with (at_builtin; refine wpList_append_lies _ rfl (.tmp 57) (.tmp 59) 32 rfl 0 9 ti _ 1 16 Try.underlying32 HT.out Z0.out Z1.out Z2.out rfl (by decide) u9 outs.length (row oneT outs) rfl (World.ownsRow.alloc T5.out.o.own _) ⟨w5.heap.size, 0, none⟩ 1 1 (oneT x) rfl rfl (World.news_of_block (heap_alloc_new w5 _)) (oneT_one _) (by decide) (by simp [maxLen]; omega) (by omega) (Nat.zero_le _) (w5.heap.size + 1) (by simp) ?_; intro g6 c6 w6 ho hgr hat hlt; have T6 := hid ((T5.out.plain (knew _ _)).pushO hgr ho (hat.imp id fun e => by rw [e]; simp) (H5.out.plain (knew _ _)).is.lt (H5.out.plain (knew _ _)).bel.size); have H6 := hid ((H5.out.plain (knew _ _)).grown (T5.out.plain (knew _ _)).o hgr); clear ho hgr hat hlt H5 T5)
                go_roundw
                case rel => exact ⟨i + 1, F5, ins4, outs ++ [x], q5, by go_num, by omega, by rw [IO4.out]; simp, hl4, H6.out, T6.out⟩
                case measure => simp [intOf]; omega
      · as_aux_lemma =>
          have hpi' : decide ((i : Int) < (ps.length : Int)) = false := by simp; omega
          by_cases hq : q.length < n
          · go_wp2_with fail
            refine (pushTH x HH.out).mono ?_
            rw [decide_eq_true hq, if_pos hq]
            rintro e w3 ⟨rfl, h3, k3⟩
            have t3 := TT.out.call k3
            have k0' : w3.cell? ⟨b0, off + i, none⟩ = some (.string x) := (k3.cell (p := ⟨b0, off + i, none⟩) hbr (fun e => by have := HH.out.new _ e; simp at this; omega)).trans k0
            have hbr3 : b0 < w3.heap.size := Nat.lt_of_lt_of_le hbr k3.size
            generalize Grow F wr w3 = F4 at h3 t3
            have IO4 := hid (show ins ++ [x] = outs ++ (q ++ [x]) by rw [IO.out]; simp)
            generalize q ++ [x] = q4 at h3 IO4
            have H3 := hid h3
            have T3 := hid t3
            clear h3 t3 k3 HH TT k0 hbr
            go_wp2_with (at_builtin; refine wpList_append_lies _ rfl (.tmp 34) (.tmp 39) 32 rfl 0 9 ti _ 1 16 Try.underlying32 HT.out Z0.out Z1.out Z2.out rfl (by decide) u8 ins.length (row oneT ins) rfl (World.ownsRow.alloc T3.out.i.own _) ⟨w3.heap.size, 0, none⟩ 1 1 (oneT x) rfl rfl (World.news_of_block (heap_alloc_new w3 _)) (oneT_one _) (by decide) (by simp [maxLen]; omega) (by omega) (Nat.zero_le _) (w3.heap.size + 1) (by simp) ?_; intro g4 c4 w4 ho hgr hat hlt; have T4 := hid ((T3.out.plain (knew _ _)).pushI hgr ho (hat.imp id fun e => by rw [e]; simp) (H3.out.plain (knew _ _)).is.lt (H3.out.plain (knew _ _)).bel.size); have H4 := hid ((H3.out.plain (knew _ _)).grown (T3.out.plain (knew _ _)).i hgr);  clear ho hgr hat hlt H3 T3 k0' hbr3)
            have hl4 : (ins ++ [x]).length ≤ i + 1 := by simp; omega
            generalize ins ++ [x] = ins4 at *
            go_roundw
            case rel => exact ⟨i + 1, F4, ins4, outs, q4, by go_num, by omega, IO4.out, hl4, H4.out, T4.out⟩
            case measure => simp [intOf]; omega
          · go_wp2_with fail
            refine (pushTH x HH.out).mono ?_
            rw [decide_eq_false hq, if_neg hq]
            rintro e w4 ⟨rfl, h4, k4⟩
            have t4 := TT.out.call k4
            generalize Grow F wr w4 = F4 at h4 t4
            obtain ⟨ins4, rfl⟩ : ∃ ins4, ins4 = ins := ⟨_, rfl⟩
            obtain ⟨q4, rfl⟩ : ∃ q4, q4 = q := ⟨_, rfl⟩
            have IO4 := IO
            have H4 := hid h4
            have T4 := hid t4
            clear h4 t4 k4 HH TT k0 hbr
            have hl4 : ins4.length ≤ i + 1 := by omega
            go_wp2
            go_roundw
            case rel => exact ⟨i + 1, F4, ins4, outs, q4, by go_num, by omega, IO4.out, hl4, H4.out, T4.out⟩
            case measure => simp [intOf]; omega
    · have hdone : ¬ i < l.length ∨ (i < l.length ∧ ¬ i < 50) := by
        rcases hh with hh | ⟨hh, hh'⟩
        · exact Or.inl (by omega)
        · exact Or.inr ⟨hh, by omega⟩
      have hq50 : q.length ≤ 50 := by have := congrArg List.length IO.out; simp at this; omega
      have hol2 : outs.length ≤ 50 := by omega
      have hil2 : ins.length ≤ 50 := by omega
      clear hh hil hol hi HD
      rcases hdone with c1 | ⟨c1, c2⟩
      all_goals
        go_wp2_with fail
        refine (allT pa n q F wr HH.out.is).mono ?_
        rintro e w3 ⟨v, rfl, ho3, hb3⟩
        have K3 := hid (Kept.of_below (F := fun _ => False) hb3)
        have O3 := hid (ho3.mono (Nat.zero_le _))
        have T3 := hid (TT.out.plain K3.out)
        have H3 := hid (HH.out.plain K3.out)
        clear ho3 hb3 HH TT K3
        go_wp2_with (at_builtin; refine wpList_append_row rfl (.tmp 61) (.tmp 63) 32 rfl 0 9 ti _ 1 16 Try.underlying32 HT.out Z0.out Z1.out Z2.out rfl (by decide) u9 v outs.length q.length (row oneT outs) (row oneT q) rfl rfl T3.out.o.own O3.out (row_one oneT_one _) (by simp [maxLen]; omega) (by omega) (Nat.zero_le _) ?_; intro v4 w4 ho4 hg4; have O4 := hid ho4; have I4 := hid (T3.out.i.other (kept_of_grown hg4) fun k hk e => T3.out.ap k hk e); have H4 := hid (H3.out.grown T3.out.o hg4); clear ho4 hg4 H3 O3 T3)
        have o4 : w4.ownsRow 0 9 1 v4 ins.length (row oneT ins) := by rw [IO.out, List.length_append, row_append]; exact O4.out
        refine (sameT u8 v4 ins (by omega) w4 I4.out.own o4).mono ?_
        rintro e w5 ⟨rfl, d, rfl⟩
        have H5 := hid (H4.out.plain ((Kept.refl _ _).drewN d))
        clear H4 I4 O4 o4
        go_wp2_with fail
        refine (known_any _).mono ?_
        rintro e w7 ⟨rfl, hb7⟩
        have B7 := hid (H5.out.bel.trans (hb7.mono H5.out.bel.size))
        clear hb7 H5
        go_wp2
        go_ret
        exact ⟨rfl, B7.out⟩
end Go.Proofs.Ytokjachnbipjjaa
