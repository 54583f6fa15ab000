/- The laws' ring, of the second heap. -/
import Derived.Test.YtckoglddhkbgkabGreatGn
import Derived.Test.YtckoglddhkbgkabGreatGd
namespace Go.Proofs.YtckoglddhkbgkabGreat
open Go.ChangeShapes Go.WideShapes Go.ChangeAt Go.RowKit
open Tr

set_option maxHeartbeats 8000000 in
set_option maxRecDepth 100000 in
theorem ring1 {w0 : Fm} {w : World} {F : Nat → Prop} {pw pa pm : Nat} {v0 v1 : Value} {s : St} {r0 r1 : Int} {L0 L1 : List (Nat × Int × Int)} {nx sp mo : Int} (c : Nat) (x : List Nat) (h : Wx w0 w F pw pa pm v0 v1 s r0 r1 L0 L1 nx sp mo) (hr : Ring (hasS s) (c :: x)) (hn : (c :: x).Nodup) (hl : ∀ d ∈ c :: x, LS s d = true) (ok : Ok s) (hlen : x.length + 1 ≤ L1.length) (hl1 : L1.length ≤ 1000) (hs : s.steps ≤ 90000000) :
    Calls Tryz.prog 57 #[.pointer (some ⟨pw, 0, none⟩), .int .i64 1, .int .i64 (c : Int)] w fun e w' =>
      ∃ v, e = .returned (.tuple #[v, .bool true]) ∧ Own w' w.heap.size v (nd1 (c :: x)) ∧ Ex F w w' pa pm (tk s (2 + 2 * x.length)) := by
  have HR := hid hr
  have HN := hid hn
  have OK := hid ok
  have HW := hid h
  have HFL := hid h.is.lt
  have lq : ∀ (j : Nat) (z : Nat), (x ++ [c])[j]? = some z → LS s z = true := fun j z hz => by
    have := List.mem_of_getElem? hz
    rw [List.mem_append, List.mem_singleton] at this
    exact hl z (by rw [List.mem_cons]; exact this.elim Or.inr Or.inl)
  have LQ := hid lq
  have HLV := hid hl
  -- to the right, to the left
  have RT := hid (fun (j y z k : Nat) (hy : (c :: x)[j]? = some y) (hz : (x ++ [c])[j]? = some z) => (show cellS (tk s k) (y : Int) 3 = (z : Int) ∧ cellS (tk s k) (z : Int) 2 = (y : Int) from
    ⟨cell_nat (s := s) (j := 3) ok (hl y (List.mem_of_getElem? hy)) (by decide) (ring_at hr j hy hz).1 (lq j z hz), cell_nat (s := s) (j := 2) ok (lq j z hz) (by decide) (ring_at hr j hy hz).2 (hl y (List.mem_of_getElem? hy))⟩))
  obtain ⟨q0, hq0⟩ : ∃ q0, (x ++ [c])[0]? = some q0 := ⟨(x ++ [c])[0]'(by simp), List.getElem?_eq_getElem _⟩
  have W1 := hid (h.plain ((Kept.refl _ _).alloc (.cells #[.int .i64 (c : Int)] 3)))
  have N0 := hid (cellT (c : Int) 3 (Ex.start W1.out.is) (by omega))
  rw [show cellS s (c : Int) 3 = (q0 : Int) from (RT.out 0 c q0 0 rfl hq0).1] at N0
  have O1 := hid (own_lit0 w w.heap.size (Nat.le_refl _) [(c : Int)] (by simp) #[.int .i64 (c : Int)] rfl)
  have Q0 := hid hq0
  have hsz : w.heap.size < (w.alloc (.cells #[.int .i64 (c : Int)] 3)).heap.size := by simp
  obtain ⟨ti, y0, y1, y2, y3⟩ := info_parts info3i
  have Z0 := hid y0
  have Z1 := hid y1
  have Z2 := hid y2
  have Z3 := hid y3
  have hn1 : ((c : Int) == -1) = false := by simp
  obtain ⟨va, vc, hv'⟩ := h.l1.form
  subst hv'
  obtain ⟨n0, hn0⟩ : ∃ z, z = L1.length := ⟨_, rfl⟩
  have HN0 := hid hn0
  rw [← hn0] at hlen hl1
  obtain ⟨c0, _, _, _, _, _, _, _, _⟩ := W1.out.cells
  have hlt1 := W1.out.lt
  have K0 := hid ((Kept.refl F w).alloc (.cells #[.int .i64 (c : Int)] 3))
  clear h hr hn hl ok lq hq0 y0 y1 y2 y3 hn0
  go_enter Tryz.func57, Tryz.ntmps57
  go_wp2_with fail
  refine N0.out.mono ?_
  rintro e w2 ⟨rfl, e2⟩
  have O2 := hid (show Own w2 w.heap.size (.slice (some ⟨w.heap.size, 0, none⟩) 1 1) (nd1 (c :: x.take 0)) from own_kept O1.out e2.kept (fun i hi hF => by have := (World.ownsRow.lt O1.out i hi).1; have := HFL.out i hF; omega))
  have E2 := hid (show Ex F w w2 pa pm (tk s 1) from ⟨e2.is, K0.out.trans' e2.kept⟩)
  have hz2 : w.heap.size < w2.heap.size := by have := e2.kept.size; omega
  clear e2 N0 O1 W1 hsz c0 hlt1 K0
  go_wp2_with fail
  go_loopw [8, 9] (fun lv dv wr => ∃ (j d : Nat), dv = .int .i64 (d : Int) ∧ j ≤ x.length ∧ Hid ((x ++ [c])[j]? = some d) ∧ Hid (Own wr w.heap.size lv (nd1 (c :: x.take j))) ∧ Hid (Ex F w wr pa pm (tk s (1 + 2 * j)))) (fun lv _ _ => x.length + 1 - lenV lv)
  case atStart => exact ⟨0, q0, rfl, Nat.zero_le _, Q0, O2, E2⟩
  case round =>
    clear O2 E2
    obtain ⟨j, d, rfl, hj, hd, ho, hE⟩ := hrel
    have hjy : ∃ y, (c :: x)[j]? = some y := ⟨(c :: x)[j]'(by simp; omega), List.getElem?_eq_getElem _⟩
    obtain ⟨y, hy⟩ := hjy
    have hnl : (nd1 (c :: x.take j)).length = j + 1 := by simp [nd1]; omega
    have hly : (nd1 (c :: x.take j))[j]? = some (y : Int) := nd1_at (by
      have e : c :: x.take j = (c :: x).take (j + 1) := rfl
      rw [e, List.getElem?_take_of_lt (by omega)]; exact hy)
    obtain ⟨g, cap, e, hg, _, hcell⟩ := own1_at ho.out int1_len hly
    subst e
    obtain ⟨m, hm⟩ : ∃ m, m = j + 1 := ⟨_, rfl⟩
    have HM := hid hm
    rw [hnl, ← hm] at ho ⊢
    replace hcell : wr.cell? ⟨g, j, none⟩ = some (.int .i64 (y : Int)) := hcell
    have HT := RT.out j y d
    have hj1 : (m : Int) - 1 = (j : Int) := by omega
    have hw1 : IntKind.i64.wrap (j : Int) = (j : Int) := IntWalk.i64_in _ (by omega)
    have WR := hid (HW.out.ex hE.out)
    obtain ⟨c0, _, _, _, c3, _, _, _, _⟩ := WR.out.cells
    rw [← HN0.out] at c3
    have hltr := WR.out.lt
    have hjl : (j : Int) < (m : Int) := by omega
    by_cases hlt : j < x.length
    · have hdx : x[j]? = some d := by have := hd.out; rwa [List.getElem?_append_left hlt] at this
      have hdc : d ≠ c := fun e => by
        have := HN.out
        rw [List.nodup_cons] at this
        exact this.1 (e ▸ List.mem_of_getElem? hdx)
      have hne : ((d : Int) != (c : Int)) = true := by simp; omega
      have hn1 : ((d : Int) == -1) = false := by simp
      have hgt : decide (n0 < m) = false := by simp; omega
      obtain ⟨z, hz⟩ : ∃ z, (x ++ [c])[j + 1]? = some z := ⟨(x ++ [c])[j + 1]'(by simp; omega), List.getElem?_eq_getElem _⟩
      have HZ := hid hz
      have TK := hid (show nd1 (c :: x.take (j + 1)) = nd1 (c :: x.take j) ++ [(d : Int)] by rw [List.take_add_one, hdx]; simp [nd1])
      have CL := hid (fun w3 (k3 : Kept (fun _ => False) wr w3) => cellT (d : Int) 2 ((Ex.start WR.out.is).plain k3) (by show s.steps + _ ≤ _; omega))
      rw [show cellS (tk s (1 + 2 * j)) (d : Int) 2 = (y : Int) from (RT.out j y d _ hy hd.out).2] at CL
      have hyy : ((y : Int) != (y : Int)) = false := by simp
      have hdx0 := hid hdx
      clear hdx hdc hd HT hm hnl hly
      have NG := hid (show ¬ F g from fun q => by have := HFL.out g q; have := (World.ownsRow.lt ho.out g rfl).1; omega)
      have NP := hid WR.out.out
      have RG := hid (fun w3 (A3 : Ex F w w3 pa pm (tk s (2 + 2 * j))) => cellT (d : Int) 3 (Ex.start A3.is) (by show s.steps + _ ≤ _; omega))
      rw [show cellS (tk s (2 + 2 * j)) (d : Int) 3 = (z : Int) from (RT.out (j + 1) d z _ (by simpa using hdx0.out) HZ.out).1] at RG
      go_wp2_with fail
      go_region_held3 (fun w' => w'.cell? ⟨pw, 0, none⟩ = some (.pointer (some ⟨pa, 0, none⟩)) ∧ w'.cell? ⟨pw, 4, none⟩ = some (.slice va n0 vc) ∧ w'.cell? ⟨g, j, none⟩ = some (.int .i64 (y : Int))) (first | exact ⟨c0, c3, hcell⟩ | (simp [go_sem]; exact ⟨c0, c3, hcell⟩))
        (first
          | (go_at_call 29; refine (CL.out _ (by first | exact Kept.refl _ _ | exact (Kept.refl _ _).drew | exact (Kept.refl _ _).drewN _)).mono ?_; rintro e w3 ⟨rfl, e3⟩; replace c0 := (e3.kept.cell (p := ⟨pw, 0, none⟩) hltr NP.out).trans c0; replace c3 := (e3.kept.cell (p := ⟨pw, 4, none⟩) hltr NP.out).trans c3; replace hcell := (e3.kept.cell (p := ⟨g, j, none⟩) hg NG.out).trans hcell; have E3 := hid e3; clear e3))
      clear CL NP NG hcell c0 c3
      have E3' := hid (hE.out.stay E3.out.is E3.out.kept)
      have O3 := hid (show Own _ w.heap.size (.slice (some ⟨g, 0, none⟩) m cap) (nd1 (c :: x.take j)) from own_kept ho.out E3.out.kept (fun i hi hF => by have := (World.ownsRow.lt ho.out i hi).1; have := HFL.out i hF; omega))
      have hzw : w.heap.size ≤ w3.heap.size := E3'.out.kept.size
      have NW : Hid (∀ i u, [Value.int .i64 (d : Int)][i]? = some u → (w3.alloc (.cells #[.int .i64 (d : Int)] 3)).cell? ((⟨w3.heap.size, 0, none⟩ : Addr).add i) = some u) := hid (World.news_of_block (heap_alloc_new w3 (.cells #[.int .i64 (d : Int)] 3)))
      have HLT := hid (fun i hi => World.ownsRow.lt O3.out i hi)
      have hnl : (nd1 (c :: x.take j)).length = j + 1 := by simp [nd1]; omega
      clear E3 ho hE WR hltr hg hne hn1 hgt hyy hj1 hw1 hjl
      go_wp2_with (
        at_builtin
        refine wpList_append_lies _ rfl (.tmp 58) (.tmp 60) 23 rfl w.heap.size 3 ti _ 1 8 Tryz.underlying23 Z0.out Z1.out Z2.out Z3.out rfl (by decide) (.slice (some ⟨g, 0, none⟩) m cap) (nd1 (c :: x.take j)).length (row int1 (nd1 (c :: x.take j))) rfl (World.ownsRow.alloc O3.out _) ⟨w3.heap.size, 0, none⟩ 1 1 [.int .i64 (d : Int)] rfl rfl NW.out (by simp [Value.oneCell']) (by decide) (by simp [maxLen]; omega) (by omega) (by simp; omega) (w3.heap.size + 1) (by simp) ?_
        intro g4 cap4 w4 o4 g4' hat hlt4
        have O4 := hid o4; have G4 := hid g4'; clear o4 g4' hat hlt4
        have L4 := hid (show Own w4 w.heap.size (.slice (some ⟨g4, 0, none⟩) ((nd1 (c :: x.take j)).length + 1) cap4) (nd1 (c :: x.take (j + 1))) from by
          have := O4.out
          unfold Own
          rw [TK.out, row_append, List.length_append]
          exact this)
        have KB := hid (((Kept.refl (fun i => w.heap.size ≤ i) w3).alloc (.cells #[.int .i64 (d : Int)] 3)).grown G4.out (fun i hi => Or.inl (HLT.out i hi).1))
        have E4 := hid (show Ex F w w4 pa pm (tk s (2 + 2 * j)) from by
          have h := E3'.out
          rw [tk_tk] at h
          have k4 := (h.kept.alloc (.cells #[.int .i64 (d : Int)] 3)).grown G4.out (fun i hi => Or.inr (HLT.out i hi).1)
          rw [show 2 + 2 * j = 1 + 2 * j + 1 by omega]
          exact ⟨h.is.kept KB.out (fun i hF hi => by have := HFL.out i hF; omega), k4⟩)
        have W4 := hid (HW.out.ex E4.out)
        have N2 := hid (RG.out w4 E4.out)
        obtain ⟨c0, _, _, _, _, _, _, _, _⟩ := W4.out.cells
        have hlt4 := W4.out.lt
        clear O4 G4 KB NW RG E3' O3 HLT W4)
      go_wp2_with fail
      refine N2.out.mono ?_
      rintro e w5 ⟨rfl, e5⟩
      have L5 := hid (own_kept L4.out e5.kept (fun i hi hF => by have := (World.ownsRow.lt L4.out i hi).1; have := HFL.out i hF; omega))
      have E5 := hid (show Ex F w w5 pa pm (tk s (1 + 2 * (j + 1))) by rw [show 1 + 2 * (j + 1) = 2 + 2 * j + 1 by omega, ← tk_tk]; exact E4.out.stay e5.is e5.kept)
      clear e5 N2 L4 E4 c0 hlt4
      go_wp2
      go_roundw
      case rel => exact ⟨j + 1, z, rfl, by omega, HZ, hid (by have h := L5.out; rw [hnl] at h; exact h), E5⟩
      case measure => simp only [lenV]; have := HM.out; omega
    · obtain rfl : j = x.length := by omega
      have hdc : d = c := by have := hd.out; simp at this; exact this.symm
      subst hdc
      have HO := hid (show Own wr w.heap.size (.slice (some ⟨g, 0, none⟩) m cap) (nd1 (d :: x)) by have := ho.out; rwa [List.take_length] at this)
      have CL := hid (fun w3 (k3 : Kept (fun _ => False) wr w3) => cellT (d : Int) 2 ((Ex.start WR.out.is).plain k3) (by show s.steps + _ ≤ _; omega))
      rw [show cellS (tk s (1 + 2 * x.length)) (d : Int) 2 = (y : Int) from (RT.out x.length y d _ hy hd.out).2] at CL
      have hyy : ((y : Int) == (y : Int)) = true := by simp
      have hne : ((d : Int) != (d : Int)) = false := by simp
      have NG := hid (show ¬ F g from fun q => by have := HFL.out g q; have := (World.ownsRow.lt ho.out g rfl).1; omega)
      have NP := hid WR.out.out
      clear ho hd HT hm hnl hly c3
      go_wp2_with fail
      go_region_held3 (fun w' => w'.cell? ⟨pw, 0, none⟩ = some (.pointer (some ⟨pa, 0, none⟩)) ∧ w'.cell? ⟨g, x.length, none⟩ = some (.int .i64 (y : Int))) (first | exact ⟨c0, hcell⟩ | (simp [go_sem]; exact ⟨c0, hcell⟩))
        (first
          | (go_at_call 29; refine (CL.out _ (by first | exact Kept.refl _ _ | exact (Kept.refl _ _).drew | exact (Kept.refl _ _).drewN _)).mono ?_; rintro e w3 ⟨rfl, e3⟩; replace c0 := (e3.kept.cell (p := ⟨pw, 0, none⟩) hltr NP.out).trans c0; replace hcell := (e3.kept.cell (p := ⟨g, x.length, none⟩) hg NG.out).trans hcell; have E3 := hid e3; clear e3))
      go_wp2
      go_ret2
      exact ⟨_, rfl, own_kept HO.out E3.out.kept (fun i hi hF => by have := (World.ownsRow.lt HO.out i hi).1; have := HFL.out i hF; omega), by rw [show 2 + 2 * x.length = 1 + 2 * x.length + 1 by omega, ← tk_tk]; exact hE.out.stay E3.out.is E3.out.kept⟩
end Go.Proofs.YtckoglddhkbgkabGreat
