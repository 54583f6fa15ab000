/- Rings of cells: the walk of All; how two lists of numbers are compared: the walk of Same. -/
import Derived.Test.YticpldlckdckdaaCw
namespace Go.Proofs.Yticpldlckdckdaa
open Go.ChangeShapes Go.WideShapes Go.ChangeAt Go.RowKit

theorem info3i : (Try.prog.info? 3).map (fun i => (i.zero, i.size, i.bytes)) = some (some (.int .i64 0), 1, 8) := by kernel_rfl
def lenV : Value → Nat
  | .slice _ n _ => n
  | _ => 0

section
variable {w0 w w' : World} {F : Nat → Prop} {pa pm n k t : Nat} {nx pv : Nat → Nat}
theorem Hr.other {G : Nat → Prop} (h : Hr w0 w F pa pm n k nx pv t) (hk : Kept G w w') (hG : ∀ k, G k → w0.heap.size ≤ k) (hd : ∀ k, F k → ¬ G k) : Hr w0 w' F pa pm n k nx pv t := ⟨h.1.other hk hG hd, h.2⟩
theorem Hr.plain (h : Hr w0 w F pa pm n k nx pv t) (hk : Kept (fun _ => False) w w') : Hr w0 w' F pa pm n k nx pv t := ⟨h.1.plain hk, h.2⟩
theorem Hr.drewN (h : Hr w0 w F pa pm n k nx pv t) (m : Nat) : Hr w0 (w.drewN m) F pa pm n k nx pv t := ⟨h.1.drewN m, h.2⟩
theorem kept_of_grown {row : Option Nat} (h : w.grownBy w' row) : Kept (fun k => row = some k) w w' := ⟨h.os, h.tape, h.output, h.size, fun k hk hn => h.block k hk fun e => hn e.symm⟩

theorem nextC (h : Hr w0 w F pa pm n k nx pv t) (ht : t ≤ 900000) {c d : Nat} (hc : c < k) (hd : nx c = d) :
    Calls Try.prog 28 #[.pointer (some ⟨pa, 0, none⟩), .int .i64 c] w fun e w' => e = .returned (.int .i64 d) ∧ Hr w0 w' F pa pm n k nx pv (t + 2) ∧ Kept F w w' := by
  obtain ⟨hV, hI⟩ := h
  subst hd
  exact (nextV hV ht hc (hI.nlt c hc) rfl (by simp [hI.pn c hc])).mono fun _ _ ⟨a, b, c⟩ => ⟨a, ⟨b, hI⟩, c⟩

set_option maxHeartbeats 2000000 in
theorem allC (h : Hr w0 w F pa pm n k nx pv t) (ht : t ≤ 700000) {c : Nat} {tl : List Nat} (hk : ∀ x ∈ c :: tl, x < k) (hr : Rnd nx (c :: tl)) (hl : tl.length ≤ 1000) :
    Calls Try.prog 17 #[.pointer (some ⟨pa, 0, none⟩), .int .i64 c] w fun e w' => ∃ v, e = .returned v ∧ w'.ownsRow w.heap.size 3 1 v (tl.length + 1) (row nat1 (c :: tl)) ∧ Hr w0 w' F pa pm n k nx pv (t + 2 * (tl.length + 1)) ∧ Kept F w w' := by
  have HH := hid h
  have HK := hid hk
  have RN := hid hr
  have hn := h.1.le
  have hc : c < k := hk c (by simp)
  have FL := hid h.1.lt
  have LV := hid (show Calls Try.prog 27 #[.pointer (some ⟨pa, 0, none⟩), .int .i64 c] w fun e w' => e = .returned (.bool true) ∧ w' = w by
    obtain ⟨s, hs, hv, _⟩ := h.1
    have := liveA pa pm s F c w hs.is
    rwa [hv.live hc] at this)
  have hd0 : nx c = tl.head?.getD c := hr.2.1
  have D0 := hid hd0
  obtain ⟨ti, hti, hz0, hz1, hz2⟩ := info_parts info3i
  have HT := hid hti
  have Z0 := hid hz0
  have Z1 := hid hz1
  have Z2 := hid hz2
  have BS := hid h.1.bel.size
  clear h hk hr hti hz0 hz1 hz2 hd0
  go_enter Try.func17, Try.ntmps17
  go_wp2_with fail
  refine LV.out.mono ?_
  rintro e w1 ⟨rfl, rfl⟩
  go_wp2_with fail
  refine (nextC (by exact HH.out.plain ((Kept.refl _ _).alloc _)) (by omega) hc D0.out).mono ?_
  rintro e w2 ⟨rfl, h2, k2⟩
  have H2 := hid h2
  have K2 := hid (((Kept.refl F w1).alloc _).trans' k2)
  have hnF : ¬ F w1.heap.size := fun e => Nat.lt_irrefl _ (FL.out _ e)
  have O2 : Hid (w2.ownsRow w1.heap.size 3 1 (.slice (some ⟨w1.heap.size, 0, none⟩) 1 1) 1 (row nat1 [c])) :=
    own_kept (World.ownsRow_lit (base := w1.heap.size) (e := 3) (size := 1) w1 #[.int .i64 c] 1 (Nat.le_refl _) (by simp [maxLen]) rfl) k2 (fun i hi => by cases hi; exact hnF)
  clear h2 k2 LV HH
  go_wp2
  go_loopw [5, 6] (fun lv dv wr => ∃ (done rest : List Nat), c :: tl = done ++ rest ∧ 0 < done.length ∧ dv = .int .i64 (rest.head?.getD c : Nat) ∧ wr.ownsRow w1.heap.size 3 1 lv done.length (row nat1 done) ∧ Hr w0 wr F pa pm n k nx pv (t + 2 * done.length) ∧ Kept F w1 wr) (fun lv _ _ => tl.length + 1 - lenV lv)
  case atStart => exact ⟨[c], tl, rfl, by simp, rfl, O2.out, H2.out, K2.out⟩
  case round =>
    clear O2 H2 K2
    obtain ⟨done, rest, he, hdl, rfl, ho, hh, hkk⟩ := hrel
    have HO := hid ho
    have HH := hid hh
    have KK := hid hkk
    have HE := hid he
    have hlen : done.length + rest.length = tl.length + 1 := by have := congrArg List.length he; simp at this; omega
    obtain ⟨la, lc, rfl⟩ := own_form ho
    clear ho hh hkk he
    cases rest with
    | nil =>
      have hd : c :: tl = done := by have := HE.out; simpa using this
      have HD := hid hd
      have hl' : done.length = tl.length + 1 := by simpa using hlen
      have hce : (((([] : List Nat).head?.getD c : Nat) : Int) == (c : Int)) = true := by simp
      clear hd hlen
      go_wp2
      go_ret
      refine ⟨_, rfl, ?_, ?_, KK.out⟩
      · have := HO.out; rw [HD.out, ← hl']; exact this
      · have := HH.out; rw [hl'] at this; exact this
    | cons y r =>
      have hyk : y < k := HK.out y (by rw [HE.out]; simp)
      have hyc : y ≠ c := fun e => by
        have hnd := RN.out.1
        rw [HE.out, List.nodup_append] at hnd
        have hc0 : c ∈ done := by
          cases done with
          | nil => simp at hdl
          | cons a b => have := HE.out; simp at this; simp [this.1]
        exact hnd.2.2 c hc0 y (by simp) e.symm
      have NY : Hid (nx y = r.head?.getD c) := by
        have hl := RN.out.2
        rw [HE.out, Lnk.append] at hl
        have hh : (done ++ y :: r).head?.getD 0 = c := by rw [← HE.out]; rfl
        have := hl.2.1
        rw [hh] at this
        exact this
      have e0 : ¬ (y : Int) = (c : Int) := by omega
      have e1 : ((y : Int) != (c : Int)) = true := by simp; omega
      have e2 : ((y : Int) != -1) = true := by simp
      simp only [List.head?_cons, Option.getD_some]
      simp only [List.length_cons] at hlen
      obtain ⟨wq, hwq⟩ : ∃ wq, wq = wr := ⟨wr, rfl⟩
      subst hwq
      have NW : Hid (∀ j u, [Value.int .i64 (y : Int)][j]? = some u → (wq.alloc (.cells #[.int .i64 (y : Int)] 3)).cell? ((⟨wq.heap.size, 0, none⟩ : Addr).add j) = some u) := World.news_of_block (heap_alloc_new wq (.cells #[.int .i64 (y : Int)] 3))
      have hsz := KK.out.size
      have YC := hid hyc
      clear hyc
      go_wp2_with (at_builtin; refine wpList_append_lies _ rfl (.tmp 30) (.tmp 32) 23 rfl w1.heap.size 3 ti _ 1 8 Try.underlying23 HT.out Z0.out Z1.out Z2.out rfl (by decide) (.slice la done.length lc) done.length (row nat1 done) rfl (World.ownsRow.alloc HO.out _) ⟨wq.heap.size, 0, none⟩ 1 1 [.int .i64 (y : Int)] rfl rfl NW.out (by simp [Value.oneCell']) (by decide) (by simp [maxLen]; omega) (by omega) (by simp; omega) (wq.heap.size + 1) (by simp) ?_; intro g2 cap2 w3 ho hgr hat hlt; have GR := hid hgr; have HO3 := hid ho; have HL := hid hlt; clear ho hgr hat hlt)
      have hrow : ∀ i, (Value.slice la done.length lc).ownBlock = some i → w1.heap.size ≤ i := fun i hi => (HO.out.lt i hi).1
      have H3 := hid ((HH.out.plain ((Kept.refl _ _).alloc _)).other (kept_of_grown GR.out) (fun i hi => Nat.le_trans BS.out (hrow i hi)) (fun i hF hi => by have := FL.out i hF; have := hrow i hi; omega))
      have K3 := hid ((KK.out.alloc _).grown GR.out (fun i hi => Or.inr (hrow i hi)))
      refine (nextC H3.out (by omega) hyk NY.out).mono ?_
      rintro e w4 ⟨rfl, h4, k4⟩
      have H4 := hid h4
      have K4 := hid (K3.out.trans' k4)
      have O4 := hid (own_kept HO3.out k4 (fun i hi hF => by have := FL.out i hF; have := (HO3.out.lt i hi).1; omega))
      clear h4 k4 H3 K3 HO3 GR HO HH KK hrow
      go_wp2
      go_roundw
      case rel => exact ⟨done ++ [y], r, by rw [HE.out]; simp, by simp, rfl, by rw [row_snoc]; simpa [nat1] using O4.out, by have := H4.out; rw [show t + 2 * (done ++ [y]).length = t + 2 * done.length + 2 by simp; omega]; exact this, K4.out⟩
      case measure => simp [lenV]; omega

set_option maxHeartbeats 2000000 in
theorem sameN (a b : Value) (l m : List Nat) (hlm : l = m) (hl : l.length ≤ 1000000) (w : World) (ha : w.ownsRow 0 3 1 a l.length (row nat1 l)) (hb : w.ownsRow 0 3 1 b m.length (row nat1 m)) :
    Calls Try.prog 16 #[a, b] w fun e w' => e = .returned (.bool true) ∧ ∃ n, w' = w.drewN n := by
  subst hlm
  have HA := hid ha
  have HB := hid hb
  obtain ⟨aa, ac, rfl⟩ := own_form ha
  obtain ⟨ba, bc, rfl⟩ := own_form hb
  clear ha hb
  go_enter Try.func16, Try.ntmps16
  go_wp2
  go_loopw [5] (fun iv wr => ∃ (i n : Nat), iv = .int .i64 i ∧ i ≤ l.length ∧ wr = w.drewN n) (fun i _ => l.length - (intOf i).toNat)
  case atStart => exact ⟨0, 0, rfl, Nat.zero_le _, rfl⟩
  case round =>
    obtain ⟨i, n, rfl, hi, rfl⟩ := hrel
    by_cases hlt : i < l.length
    · have hx : l[i]? = some l[i] := List.getElem?_eq_getElem hlt
      obtain ⟨ga, ca, ea, hga, _, hka⟩ := own1_at HA.out nat1_len hx
      obtain ⟨gb, cb, eb, hgb, _, hkb⟩ := own1_at HB.out nat1_len hx
      cases ea
      cases eb
      generalize l[i] = x at hx hka hkb
      replace hka : w.cell? ⟨ga, i, none⟩ = some (.int .i64 (x : Int)) := hka
      replace hkb : w.cell? ⟨gb, i, none⟩ = some (.int .i64 (x : Int)) := hkb
      have hlt' : (i : Int) < (l.length : Int) := by omega
      clear hx
      go_wp2_with fail
      go_quiet (fail)
      go_wp2
      go_roundw
      case rel => exact ⟨i + 1, n + nq, by go_num, by omega, by simp [go_sem]⟩
      case measure => simp [intOf]; omega
    · obtain rfl : i = l.length := by omega
      go_wp2
      go_ret
      exact ⟨rfl, _, rfl⟩
end
end Go.Proofs.Yticpldlckdckdaa
