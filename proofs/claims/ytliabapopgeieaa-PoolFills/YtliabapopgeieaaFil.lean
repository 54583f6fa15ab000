/- The walk of PoolFills. -/
import Derived.Test.YtliabapopgeieaaMn
namespace Go.Proofs.Ytliabapopgeieaa
open Go.ChangeShapes Go.WideShapes Go.ChangeAt Go.RowKit

theorem news2 (W : World) (o : Obj) (cs : Array Value) (t : TypeId) : ∀ j u, cs.toList[j]? = some u → ((W.alloc o).alloc (.cells cs t)).cell? ((⟨W.heap.size + 1, 0, none⟩ : Addr).add j) = some u := by
  have := World.news_of_block (heap_alloc_new (W.alloc o) (.cells cs t))
  simpa using this
theorem row_snoc {α : Type} {f : α → List Value} (l : List α) (x : α) : row f (l ++ [x]) = row f l ++ f x := by rw [row_append]; simp [row]

def bx : ByteArray := ⟨#[120]⟩
/-- a pool of n places, the first k taken -/
def fillS (n k : Nat) : St ByteArray := ⟨n, List.replicate k (bx, 1, true), []⟩
def refsS (k : Nat) : List (Nat × Nat) := (List.range k).map (fun i => (i, 1))
theorem refsS_len (k : Nat) : (refsS k).length = k := by simp [refsS]
theorem refsS_succ (k : Nat) : refsS (k + 1) = refsS k ++ [(k, 1)] := by simp [refsS, List.range_succ]
theorem refsS_get {k i : Nat} (h : i < k) : (refsS k)[i]? = some (i, 1) := by simp [refsS, h]
theorem fill_next {n k : Nat} (h : k < n) : nextS (⟨#[]⟩ : ByteArray) (fillS n k) = (⟨n, List.replicate k (bx, 1, true) ++ [(⟨#[]⟩, 0, false)], []⟩, k, true) := by
  unfold fillS
  rw [nextS_new (by simp; omega)]
  simp
theorem fill_liv {n k : Nat} : livS (⟨n, List.replicate k (bx, 1, true) ++ [(⟨#[]⟩, 0, false)], []⟩ : St ByteArray) k = 0 := by simp [livS]
theorem fill_take {n k : Nat} (h : k < n) : takeS (⟨#[]⟩ : ByteArray) bx (fillS n k) = fillS n (k + 1) := by
  unfold takeS
  rw [fill_next h]
  simp only [fill_liv, if_true]
  unfold fillS
  congr 1
  rw [List.replicate_succ']
  rw [List.set_append_right _ _ (by simp)]
  simp
theorem fill_took {n k : Nat} (h : k < n) : tookS (⟨#[]⟩ : ByteArray) (fillS n k) = (k, 1) := by
  unfold tookS
  rw [fill_next h]
  simp only [fill_liv, if_true]
theorem full_next {s : St ByteArray} (hb : s.back = []) (hl : s.pl.length = s.most) : nextS (⟨#[]⟩ : ByteArray) s = (s, 0, false) := by
  obtain ⟨m, pl, bk⟩ := s
  simp only [] at hb hl
  subst hb
  exact nextS_full hl
theorem most0_nat {n : Nat} (h : n ≤ 65536) : most0 (n : Int) = n := by unfold most0; omega

/-- those of gone were given back, each once, in that order -/
structure Gone (n : Nat) (s : St ByteArray) (gone : List Nat) : Prop where
  most : s.most = n
  len : s.pl.length = n
  back : s.back = gone
  liv : ∀ x ∈ s.pl, x.2.1 = 1
  free : ∀ b ∈ gone, b < n ∧ ∀ x, s.pl[b]? = some x → x.2.2 = false
  once : gone.Nodup
theorem Gone.start (n : Nat) : Gone n (fillS n n) [] := ⟨rfl, by simp [fillS], rfl, fun x hx => (by simp [fillS] at hx; obtain ⟨_, rfl⟩ := hx; rfl), fun b hb => (by cases hb), List.nodup_nil⟩
theorem Gone.give {n : Nat} {s : St ByteArray} {gone : List Nat} {r : Nat} (h : Gone n s gone) (hL : lookS s.pl r 1 = 0) : Gone n (giveS (⟨#[]⟩ : ByteArray) s r 1) (gone ++ [r]) := by
  obtain ⟨_, x, hx, _, _, ht⟩ := lookS_zero hL
  rw [giveS_yes hL hx]
  simp only [Int.toNat_natCast] at hx ⊢
  have hr : r < s.pl.length := (List.getElem?_eq_some_iff.1 hx).1
  have hng : r ∉ gone := fun hm => by
    have := (h.free r hm).2 x hx
    rw [this] at ht
    cases ht
  refine ⟨h.most, by simpa using h.len, by rw [h.back], ?_, ?_, ?_⟩
  · intro y hy
    rcases List.mem_or_eq_of_mem_set hy with q | q
    · exact h.liv y q
    · subst q; exact h.liv x (List.mem_of_getElem? hx)
  · intro b hb
    simp only [List.mem_append, List.mem_singleton] at hb
    rcases hb with hb | rfl
    · refine ⟨(h.free b hb).1, fun y hy => ?_⟩
      have hne : r ≠ b := fun e => hng (e ▸ hb)
      rw [List.getElem?_set_ne hne] at hy
      exact (h.free b hb).2 y hy
    · refine ⟨by rw [← h.len]; exact hr, fun y hy => ?_⟩
      rw [List.getElem?_set_self hr] at hy
      injection hy with hy
      subst hy
      rfl
  · rw [List.nodup_append]
    refine ⟨h.once, by simp, fun a ha b hb => ?_⟩
    simp at hb
    subst hb
    exact fun e => hng (e ▸ ha)
/-- those of g1 are still to be taken again -/
structure Again (n : Nat) (s : St ByteArray) (g1 : List Nat) : Prop where
  most : s.most = n
  len : s.pl.length = n
  back : s.back = g1
  liv : ∀ x ∈ s.pl, x.2.1 ≤ 2
  one : ∀ b ∈ g1, b < n ∧ ∀ x, s.pl[b]? = some x → x.2.1 = 1
  once : g1.Nodup
theorem Gone.again {n : Nat} {s : St ByteArray} {gone : List Nat} (h : Gone n s gone) : Again n s gone :=
  ⟨h.most, h.len, h.back, fun x hx => by rw [h.liv x hx]; decide, fun b hb => ⟨(h.free b hb).1, fun x hx => h.liv x (List.mem_of_getElem? hx)⟩, h.once⟩
theorem Again.next {n : Nat} {s : St ByteArray} {g1 : List Nat} {b : Nat} (h : Again n s (g1 ++ [b])) : nextS (⟨#[]⟩ : ByteArray) s = (⟨n, s.pl, g1⟩, b, true) := by
  obtain ⟨m, pl, bk⟩ := s
  have h1 := h.most
  have h2 := h.back
  simp only [] at h1 h2
  subst h1 h2
  exact nextS_back
theorem Again.take {n : Nat} {s : St ByteArray} {g1 : List Nat} {b : Nat} (v : ByteArray) (h : Again n s (g1 ++ [b])) : tookS (⟨#[]⟩ : ByteArray) s = (b, 2) ∧ Again n (takeS (⟨#[]⟩ : ByteArray) v s) g1 := by
  obtain ⟨hb, h1⟩ := h.one b (by simp)
  have hbl : b < s.pl.length := by rw [h.len]; exact hb
  have hx : s.pl[b]? = some s.pl[b] := List.getElem?_eq_getElem hbl
  have hl : livS (⟨n, s.pl, g1⟩ : St ByteArray) b = 1 := by unfold livS; simp only [hx]; exact h1 _ hx
  have hnd := h.once
  rw [List.nodup_append] at hnd
  refine ⟨by unfold tookS; rw [h.next]; simp [hl], ?_⟩
  unfold takeS
  rw [h.next]
  simp only [if_true, hl]
  refine ⟨rfl, by simpa using h.len, rfl, ?_, ?_, hnd.1⟩
  · intro y hy
    rcases List.mem_or_eq_of_mem_set hy with q | q
    · exact h.liv y q
    · subst q; exact Nat.le_refl 2
  · intro c hc
    obtain ⟨q1, q2⟩ := h.one c (by simp [hc])
    refine ⟨q1, fun y hy => ?_⟩
    have hne : b ≠ c := fun e => hnd.2.2 c hc b (by simp) e.symm
    rw [List.getElem?_set_ne hne] at hy
    exact q2 y hy

set_option maxHeartbeats 4000000 in
theorem fills_walk (p : Int) (hp : I64 p) (a : Option Addr) (cap : Nat) (l : List Int) (hl : l.length ≤ maxLen) (hI : ∀ x ∈ l, I64 x) (w : World) (hC : Came w a 1 (fun x => [.int .i64 x]) l) :
    Calls Try.prog 6 #[.int .i64 p, .slice a l.length cap] w fun e w' => e = .returned (.bool true) ∧ Below w.heap.size w w' := by
  unfold maxLen at hl
  obtain ⟨ti, hti, hz0, hz1, hz2⟩ := info_parts info25
  have HT := hid hti
  have Z0 := hid hz0
  have Z1 := hid hz1
  have Z2 := hid hz2
  obtain ⟨tj, htj, hy0, hy1, hy2⟩ := info_parts info3
  have JT := hid htj
  have Y0 := hid hy0
  have Y1 := hid hy1
  have Y2 := hid hy2
  have HC := hid hC
  have HI := hid hI
  clear hti hz0 hz1 hz2 htj hy0 hy1 hy2 hC hI
  go_enter Try.func6, Try.ntmps6
  go_wp2_with fail
  refine (within_any p hp 1 40 (by decide) (by decide) w).mono ?_
  rintro e w1 ⟨n, rfl, hn1, hn2, rfl⟩
  go_wp2_with fail
  refine (newTH n w1).mono ?_
  rintro e w2 ⟨F, pa, rfl, h2⟩
  rw [most0_nat (by omega)] at h2
  have H2 := hid h2
  clear h2
  go_wp2
  go_loopw [7, 8] (fun rv iv wr => ∃ (k : Nat) (F : Nat → Prop), iv = .int .i64 k ∧ k ≤ n ∧ HoldT w1 wr F pa (fillS n k) ∧ Mine w1 wr F 25 2 rv k (row ref2 (refsS k))) (fun _ i _ => n - (intOf i).toNat)
  case atStart => exact ⟨0, F, rfl, Nat.zero_le _, H2.out, Mine.nil _ _ _ _ _⟩
  case round =>
    clear H2 F
    obtain ⟨k, F, rfl, hk, hH, hM⟩ := hrel
    have HH := hid hH
    have HM := hid hM
    clear hH hM
    by_cases hkn : k < n
    · go_wp2_with fail
      refine (takeTH bx HH.out (by simp [fillS]; omega) (by simp [fillS]) (by simp [fillS]) (by intro x hx; simp [fillS] at hx; obtain ⟨_, rfl⟩ := hx; decide)).mono ?_
      rintro e w3 ⟨rfl, h3, k3⟩
      rw [fill_take hkn] at h3
      rw [fill_took hkn, fill_next hkn]
      have hq := fun w => neq25 (k, 1) (k, 1) w
      simp at hq
      have m3 := HM.out.call k3
      generalize Grow F wr w3 = F3 at h3 m3
      have H3 := hid (h3.plain (knew w3 (.cells #[.int .i64 k, .int .i64 1] 25)))
      have M3 := hid (m3.plain (knew w3 (.cells #[.int .i64 k, .int .i64 1] 25)))
      clear h3 k3 HH HM m3
      go_wp2_with (at_builtin; refine wpList_append_lies _ rfl (.tmp 47) (.tmp 49) 38 rfl 0 25 ti _ 2 16 Try.underlying38 HT.out Z0.out Z1.out Z2.out rfl (by decide) u7 k (row ref2 (refsS k)) rfl (World.ownsRow.alloc M3.out.own _) ⟨w3.heap.size + 1, 0, none⟩ 1 1 (ref2 (k, 1)) rfl rfl (news2 w3 _ #[.int .i64 k, .int .i64 1] 25) (ref2_one _) (by decide) (by simp [maxLen]; omega) (by omega) (Nat.zero_le _) (w3.heap.size + 2) (by simp) ?_; intro g c w4 ho hgr hat hlt; have M4 := hid (Mine.pushed (M3.out.plain (knew _ _)) hgr ho (hat.imp id fun e => by rw [e]; simp) (H3.out.plain (knew _ _)).is.lt (H3.out.plain (knew _ _)).bel.size); have H4 := hid ((H3.out.plain (knew _ _)).grown (M3.out.plain (knew _ _)) hgr); clear ho hgr hat hlt H3 M3)
      go_roundw
      case rel => exact ⟨k + 1, F3, by go_num, by omega, H4.out, by rw [refsS_succ, row_snoc]; exact M4.out⟩
      case measure => simp [intOf]; omega
    · obtain rfl : k = n := by omega
      go_wp2_with fail
      have hfull : nextS (⟨#[]⟩ : ByteArray) (fillS k k) = (fillS k k, 0, false) := full_next rfl (by simp [fillS])
      refine (takeTH ⟨#[121]⟩ HH.out (by simp [fillS]; omega) (by simp [fillS]) (by simp [fillS]) (by intro x hx; simp [fillS] at hx; obtain ⟨_, rfl⟩ := hx; decide)).mono ?_
      rintro e w3 ⟨rfl, h3, k3⟩
      have e1 : takeS (⟨#[]⟩ : ByteArray) ⟨#[121]⟩ (fillS k k) = fillS k k := by unfold takeS; rw [hfull]; rfl
      have e2 : tookS (⟨#[]⟩ : ByteArray) (fillS k k) = (0, 0) := by unfold tookS; rw [hfull]; rfl
      rw [e1] at h3
      rw [hfull, e2]
      have m3 := HM.out.call k3
      generalize Grow F wr w3 = F3 at h3 m3
      have H3 := hid (h3.plain (knew w3 (.cells #[.int .i64 0, .int .i64 0] 25)))
      have M3 := hid (m3.plain (knew w3 (.cells #[.int .i64 0, .int .i64 0] 25)))
      clear h3 k3 HH HM m3 e1 e2 hfull hkn hk F
      go_wp2
      go_loopw [13, 14] (fun gv iv wr => ∃ (i : Nat) (gone : List Nat) (F : Nat → Prop) (s : St ByteArray), iv = .int .i64 i ∧ i ≤ k ∧ gone.length ≤ i ∧ Gone k s gone ∧ HoldT w1 wr F pa s ∧ Mine w1 wr F 25 2 u7 k (row ref2 (refsS k)) ∧ Mine w1 wr F 3 1 gv gone.length (row nat1 gone)) (fun _ i _ => k - (intOf i).toNat)
      case atStart => exact ⟨0, [], F3, _, rfl, Nat.zero_le _, Nat.le_refl _, Gone.start k, H3.out, M3.out, Mine.nil _ _ _ _ _⟩
      case round =>
        clear H3 M3 F3
        obtain ⟨i, gone, F, s, rfl, hik, hgl, hG, hH, hM, hN⟩ := hrel
        have GG := hid hG
        have HH := hid hH
        have HM := hid hM
        have HN := hid hN
        clear hG hH hM hN
        rcases (by omega : (i < l.length ∧ i < k) ∨ ((l.length ≤ i) ∨ (i < l.length ∧ k ≤ i))) with hh | hh
        · obtain ⟨hlt, hkn⟩ := hh
          have hx : l[i]? = some l[i] := List.getElem?_eq_getElem hlt
          obtain ⟨b, off, rfl, hb, hc⟩ := HC.out.get HH.out.bel hx
          have hy := HI.out _ (List.getElem_mem hlt)
          generalize l[i] = y at hc hy
          have c0 : wr.cell? ⟨b, off + i, none⟩ = some (.int .i64 y) := by simpa using hc 0 (by omega)
          obtain ⟨m, hm⟩ : ∃ m, k = m + 1 := ⟨k - 1, by omega⟩
          have hkm : (k : Int) - 1 = (m : Int) := by omega
          have hlt1 : (i : Int) < (l.length : Int) := by omega
          have hbr : b < wr.heap.size := Nat.lt_of_lt_of_le hb HH.out.bel.size
          have HMK := hid hm
          clear hc hx hm
          go_wp2_with fail
          refine (within_any y hy 0 m (Nat.zero_le _) (by omega) wr).mono ?_
          rintro e w4 ⟨r, rfl, -, hr, rfl⟩
          obtain ⟨g, gc, rfl, _, hg⟩ := HM.out.own.form (by omega)
          have hrk : r < k := by have := HMK.out; omega
          have hrk1 : (r : Int) < (k : Int) := by omega
          have r0 : w4.cell? ⟨g, r * 2, none⟩ = some (.int .i64 r) := by
            rw [HM.out.own.cellAt (r * 2) (by omega), show r * 2 = r * 2 + 0 by omega, row_get ref2_len _ r 0 _ (refsS_get hrk) (by decide)]; rfl
          have r1 : w4.cell? ⟨g, r * 2 + 1, none⟩ = some (.int .i64 1) := by
            rw [HM.out.own.cellAt (r * 2 + 1) (by omega), row_get ref2_len _ r 1 _ (refsS_get hrk) (by decide)]; rfl
          clear c0 hkm hbr hb hy
          go_wp2_with fail
          refine (giveTH r 1 HH.out (by rw [GG.out.back]; omega)).mono ?_
          rintro e w5 ⟨rfl, h5, k5⟩
          have m5 := HM.out.call k5
          have n5 := HN.out.call k5
          generalize Grow F w4 w5 = F5 at h5 m5 n5
          clear r0 r1 k5 HM HN HH
          rcases lookS_three (l := s.pl) (a := r) (g := 1) with hL | hL | hL
          · rw [giveS_no (by rw [hL]; decide)] at h5
            rw [hL]
            have H5 := hid h5
            have M5 := hid m5
            have N5 := hid n5
            clear h5 m5 n5 hL
            go_wp2
            go_roundw
            case rel => exact ⟨i + 1, gone, F5, s, by go_num, by omega, by omega, GG.out, H5.out, M5.out, N5.out⟩
            case measure => simp [intOf]; omega
          · rw [giveS_no (by rw [hL]; decide)] at h5
            rw [hL]
            have H5 := hid h5
            have M5 := hid m5
            have N5 := hid n5
            clear h5 m5 n5 hL
            go_wp2
            go_roundw
            case rel => exact ⟨i + 1, gone, F5, s, by go_num, by omega, by omega, GG.out, H5.out, M5.out, N5.out⟩
            case measure => simp [intOf]; omega
          · have G5 := hid (GG.out.give hL)
            rw [hL]
            have H5 := hid h5
            have M5 := hid m5
            have N5 := hid n5
            clear h5 m5 n5 hL GG
            go_wp2_with (at_builtin; refine wpList_append_lies _ rfl (.tmp 85) (.tmp 87) 23 rfl 0 3 tj _ 1 8 Try.underlying23 JT.out Y0.out Y1.out Y2.out rfl (by decide) u13 gone.length (row nat1 gone) rfl (World.ownsRow.alloc N5.out.own _) ⟨w5.heap.size, 0, none⟩ 1 1 (nat1 r) rfl rfl (World.news_of_block (heap_alloc_new w5 _)) (nat1_one _) (by decide) (by simp [maxLen]; omega) (by omega) (Nat.zero_le _) (w5.heap.size + 1) (by simp) ?_; intro g2 c2 w6 ho hgr hat hlt; have N6 := hid (Mine.pushed (N5.out.plain (knew _ _)) hgr ho (hat.imp id fun e => by rw [e]; simp) (H5.out.plain (knew _ _)).is.lt (H5.out.plain (knew _ _)).bel.size); have H6 := hid ((H5.out.plain (knew _ _)).grown (N5.out.plain (knew _ _)) hgr); have M6 := hid ((M5.out.plain (knew _ _)).grown (N5.out.plain (knew _ _)).own hgr (by decide)); clear ho hgr hat hlt H5 M5 N5)
            go_roundw
            case rel => exact ⟨i + 1, gone ++ [r], F5, _, by go_num, by omega, by simp; omega, G5.out, H6.out, M6.out, by rw [row_snoc, List.length_append]; exact N6.out⟩
            case measure => simp [intOf]; omega
        · have hdone : ¬ i < l.length ∨ (i < l.length ∧ ¬ i < k) := by
            rcases hh with hh | ⟨hh, hh'⟩
            · exact Or.inl (by omega)
            · exact Or.inr ⟨hh, by omega⟩
          have hgk : gone.length ≤ 40 := by omega
          clear HM hh hgl hik
          obtain ⟨ga, gcap, rfl⟩ := own_form HN.out.own
          obtain ⟨wq, hwq⟩ : ∃ wq, wq = wr := ⟨wr, rfl⟩
          subst hwq
          rcases hdone with c1 | ⟨c1, c2⟩
          all_goals
            go_wp2
            go_loopw [18] (fun iv wr => ∃ (g1 g2 : List Nat) (F : Nat → Prop) (s : St ByteArray), iv = .int .i64 ((g1.length : Int) - 1) ∧ gone = g1 ++ g2 ∧ Again k s g1 ∧ HoldT w1 wr F pa s ∧ Mine w1 wr F 3 1 (.slice ga gone.length gcap) gone.length (row nat1 gone)) (fun i _ => (intOf i + 1).toNat)
            case atStart => exact ⟨gone, [], F, s, by go_num, by simp, GG.out.again, HH.out, HN.out⟩
            case round =>
              clear GG HH HN F s
              obtain ⟨g1, g2, F, s, rfl, hgg, hA, hH, hN⟩ := hrel
              have HA := hid hA
              have HH := hid hH
              have HN := hid hN
              have GE := hid hgg
              have hg1 : g1.length ≤ gone.length := by rw [hgg]; simp
              clear hA hH hN hgg
              rcases snoc_or g1 with rfl | ⟨g1, b, rfl⟩
              · have hfull : nextS (⟨#[]⟩ : ByteArray) s = (s, 0, false) := full_next HA.out.back (by rw [HA.out.len, HA.out.most])
                go_wp2_with fail
                refine (takeTH ⟨#[121]⟩ HH.out (by rw [HA.out.len]; omega) (by rw [HA.out.back]; decide) (by rw [HA.out.back]; exact fun b hb => by cases hb) (fun x hx => by have := HA.out.liv x hx; omega)).mono ?_
                rintro e w5 ⟨rfl, h5, k5⟩
                have e1 : takeS (⟨#[]⟩ : ByteArray) ⟨#[121]⟩ s = s := by unfold takeS; rw [hfull]; rfl
                have e2 : tookS (⟨#[]⟩ : ByteArray) s = (0, 0) := by unfold tookS; rw [hfull]; rfl
                rw [e1] at h5
                rw [hfull, e2]
                generalize Grow F wr w5 = F5 at h5
                have H5 := hid (h5.plain (knew w5 (.cells #[.int .i64 0, .int .i64 0] 25)))
                have hlen : s.pl.length - s.back.length = k := by rw [HA.out.len, HA.out.back]; rfl
                have hbl : s.back.length ≤ s.pl.length := by rw [HA.out.len, HA.out.back]; exact Nat.zero_le _
                have hml : s.pl.length ≤ 1000000 := by rw [HA.out.len]; omega
                have LL := hid hlen
                clear h5 k5 HH HN e1 e2 hfull hlen
                go_wp2_with fail
                refine (lenTH H5.out hbl hml).mono ?_
                rintro e w6 ⟨rfl, nd, rfl⟩
                rw [LL.out]
                have H6 := hid (H5.out.plain ((Kept.refl _ _).drewN nd))
                clear H5 hbl hml
                go_wp2_with fail
                refine (known_any _).mono ?_
                rintro e w7 ⟨rfl, hb7⟩
                have B7 := hid (H6.out.bel.trans (hb7.mono H6.out.bel.size))
                clear hb7 H6
                go_wp2
                go_ret
                exact ⟨rfl, B7.out⟩
              · have hgl1 : g1.length < gone.length := by simp at hg1; omega
                obtain ⟨gg, gc, ee, _, hgb⟩ := HN.out.own.form (by omega)
                cases ee
                obtain ⟨e2, A2⟩ := HA.out.take ⟨#[122]⟩
                have en := HA.out.next
                have c0 : wr.cell? ⟨gg, g1.length, none⟩ = some (.int .i64 b) := by
                  rw [HN.out.own.cellAt g1.length (by omega), show g1.length = g1.length * 1 + 0 by omega, row_get nat1_len _ g1.length 0 b (by rw [GE.out]; simp) (by decide)]; rfl
                have hgo := (HN.out.out gg rfl).1
                have hi : ((g1 ++ [b]).length : Int) - 1 = (g1.length : Int) := by simp
                rw [hi]
                go_wp2_with fail
                refine (takeTH ⟨#[122]⟩ HH.out (by rw [HA.out.len]; omega) (by rw [HA.out.back]; omega) (by rw [HA.out.back, HA.out.len]; exact fun b hb => (HA.out.one b hb).1) (fun x hx => by have := HA.out.liv x hx; omega)).mono ?_
                rintro e w5 ⟨rfl, h5, k5⟩
                rw [e2, en]
                have c5 := (k5.cell (p := ⟨gg, g1.length, none⟩) hgb hgo).trans c0
                have hg5 : gg < w5.heap.size := Nat.lt_of_lt_of_le hgb k5.size
                have n5 := HN.out.call k5
                generalize Grow F wr w5 = F5 at h5 n5
                have hq := fun w => neq25 (b, 2) (b, 2) w
                simp at hq
                have H5 := hid (h5.plain (knew w5 (.cells #[.int .i64 b, .int .i64 2] 25)))
                have N5 := hid (n5.plain (knew w5 (.cells #[.int .i64 b, .int .i64 2] 25)))
                have A5 := hid A2
                have hgl2 : (g1.length : Int) < (gone.length : Int) := by omega
                clear h5 n5 k5 HN HH c0 e2 en A2 hi HA hgo
                go_wp2_with fail
                go_quiet (fail)
                go_wp2
                go_roundw
                case rel => exact ⟨g1, b :: g2, F5, _, by go_num, by rw [GE.out]; simp, A5.out, (H5.out.plain ((Kept.refl _ _).drewN _)), (N5.out.plain ((Kept.refl _ _).drewN _))⟩
                case measure => simp [intOf]
end Go.Proofs.Ytliabapopgeieaa
