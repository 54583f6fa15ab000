/- The walks of the library's stable sort and of order.Sort: behind them the row has all entries, in order. -/
import Derived.Test.YtjjahhiaelaocaaSymC
namespace Go.Proofs.Ytjjahhiaelaocaa
open Go.ChangeShapes Go.WideShapes Go.ChangeAt Go.RowKit

theorem dvd_step {d s q : Nat} (h1 : d ∣ s) (h2 : d ∣ q) (h : s < q) : s + d ≤ q := by
  obtain ⟨x, rfl⟩ := h1
  obtain ⟨y, rfl⟩ := h2
  have hxy : x < y := Nat.lt_of_mul_lt_mul_left h
  calc d * x + d = d * (x + 1) := (Nat.mul_succ d x).symm
    _ ≤ d * y := Nat.mul_le_mul_left d hxy

/-- each stretch of d, from a multiple of d on, is in order, as far as place n -/
def Blk (l : List (Int × Int)) (d n : Nat) : Prop := ∀ s, d ∣ s → SortedOn l s (min (s + d) n)

theorem SortedOn.keep {a b lo hi : Nat} {l m : List (Int × Int)} (h : SortedOn l a b) (hw : Within lo hi l m) (hd : b ≤ lo ∨ hi ≤ a) : SortedOn m a b := fun i j h1 h2 h3 => by
  rw [hw.out i (by omega), hw.out j (by omega)]; exact h i j h1 h2 h3
theorem SortedOn.sub {a b a' b' : Nat} {l : List (Int × Int)} (h : SortedOn l a b) (ha : a ≤ a') (hb : b' ≤ b) : SortedOn l a' b' := fun i j h1 h2 h3 => h i j (by omega) h2 (by omega)

set_option maxRecDepth 100000 in
set_option maxHeartbeats 4000000 in
theorem stable_any (g off cap : Nat) (l : List (Int × Int)) (w : World) (hl : l.length ≤ 1000000) (ho : Own w g off l) :
    Calls Try.prog 33 #[.slice (some ⟨g, off, none⟩) l.length cap, .int .i64 l.length, .func (.func 19) #[] #[]] w fun e w' =>
      e = .returned (.tuple #[]) ∧ ∃ l', Within 0 l.length l l' ∧ SortedOn l' 0 l.length ∧ Own w' g off l' ∧ Below g w w' := by
  obtain ⟨n, hn⟩ : ∃ n, n = l.length := ⟨_, rfl⟩
  rw [← hn] at hl ⊢
  have N := hid hn
  clear hn
  go_enter Try.func33, Try.ntmps33
  go_wp2
  go_loopw [7, 8] (fun av bv wr => ∃ (q : Nat) (m : List (Int × Int)), av = .int .i64 q ∧ bv = .int .i64 ((q + 20 : Nat) : Int) ∧ 20 ∣ q ∧ q ≤ n ∧ Within 0 n l m ∧ (∀ s, 20 ∣ s → s < q → SortedOn m s (s + 20)) ∧ Own wr g off m ∧ Below g w wr) (fun av _ _ => n + 20 - (intOf av).toNat)
  case atStart => exact ⟨0, l, rfl, rfl, Nat.dvd_zero _, Nat.zero_le _, Within.refl _ _ _, fun s _ h => by omega, ho, Below.refl _ _⟩
  case round =>
    clear ho
    obtain ⟨q, m, rfl, rfl, hq, hqn, hw, hs, hown, hbel⟩ := hrel
    have hlen := hw.len
    rw [← N.out] at hlen
    have LEN := hid hlen
    have BL := hid hbel
    have QD := hid hq
    clear hlen hbel hq
    by_cases hlt : q + 20 ≤ n
    · have hc := ins_any g off cap q (q + 20) m wr (by omega) (by have := LEN.out; omega) (by have := LEN.out; omega) hown
      rw [LEN.out] at hc
      have HC := hid hc
      have hlt' : (q : Int) + 20 ≤ (n : Int) := by omega
      clear hc hown
      go_wp2_with fail
      refine HC.out.mono ?_
      rintro e w' ⟨rfl, m', hw', hs', hown', hbel'⟩
      go_wp2
      go_roundw
      case rel =>
        refine ⟨q + 20, m', by go_num, by go_num, Nat.dvd_add QD.out (Nat.dvd_refl _), hlt, hw.trans (hw'.mono (Nat.zero_le _) hlt), fun s h1 h2 => ?_, hown', BL.out.trans hbel'⟩
        by_cases e : s < q
        · exact (hs s h1 e).keep hw' (Or.inl (dvd_step h1 QD.out e))
        · have : s = q := by
            by_cases e' : q < s
            · have := dvd_step QD.out h1 e'; omega
            · omega
          rw [this]; exact hs'
      case measure => simp [intOf]; omega
    · have hc := ins_any g off cap q n m wr (by omega) (by have := LEN.out; omega) (by have := LEN.out; omega) hown
      rw [LEN.out] at hc
      have HC := hid hc
      have hlt' : ¬ (q : Int) + 20 ≤ (n : Int) := by omega
      clear hc hown
      go_wp2_with fail
      refine HC.out.mono ?_
      rintro e w1 ⟨rfl, m1, hw1, hs1, hown1, hbel1⟩
      have B20 : Blk m1 20 n := fun s h1 => by
        by_cases e : s < q
        · have h3 := dvd_step h1 QD.out e
          exact ((hs s h1 e).keep hw1 (Or.inl h3)).sub (Nat.le_refl _) (by omega)
        · by_cases e' : q < s
          · have h3 := dvd_step QD.out h1 e'
            exact sortedOn_short (by omega)
          · have : s = q := by omega
            rw [this]; exact hs1.sub (Nat.le_refl _) (by omega)
      have W1 := hid (hw.trans (hw1.mono (Nat.zero_le _) (Nat.le_refl _)))
      have BL1 := hid (BL.out.trans hbel1)
      clear HC hw hs hs1 hw1 hbel1 BL
      go_wp2
      go_loopw [6] (fun bsv wr => ∃ (bs : Nat) (m : List (Int × Int)), bsv = .int .i64 bs ∧ 0 < bs ∧ bs ≤ 2 * n + 20 ∧ Within 0 n l m ∧ Blk m bs n ∧ Own wr g off m ∧ Below g w wr) (fun bsv _ => n - (intOf bsv).toNat)
      case atStart => exact ⟨20, m1, rfl, by omega, by omega, W1.out, B20, hown1, BL1.out⟩
      case round =>
        clear B20 W1 BL1 hown1 m1 m hqn QD hlt' LEN hlt
        obtain ⟨bs, m, rfl, hbs, hbn, hw, hB, hown, hbel⟩ := hrel
        have hlen := hw.len
        rw [← N.out] at hlen
        have LEN := hid hlen
        have BL := hid hbel
        have BB := hid hB
        clear hlen hbel hB
        by_cases hlt : bs < n
        · obtain ⟨d, hd⟩ : ∃ d, d = 2 * bs := ⟨_, rfl⟩
          have hid2 : (2 : Int) * (bs : Int) = (d : Int) := by omega
          have hid3 : (bs : Int) * 2 = (d : Int) := by omega
          have hdn : d ≤ 2 * n := by omega
          have D := hid hd
          clear hd
          go_wp2
          go_loopw [7, 8] (fun av bv wr => ∃ (q : Nat) (m : List (Int × Int)), av = .int .i64 q ∧ bv = .int .i64 ((q + d : Nat) : Int) ∧ d ∣ q ∧ q ≤ n ∧ Within 0 n l m ∧ (∀ s, d ∣ s → s < q → SortedOn m s (s + d)) ∧ (∀ s, bs ∣ s → q ≤ s → SortedOn m s (min (s + bs) n)) ∧ Own wr g off m ∧ Below g w wr) (fun av _ _ => n + d - (intOf av).toNat)
          case atStart => exact ⟨0, m, rfl, by simp, Nat.dvd_zero _, Nat.zero_le _, hw, fun s _ h => by omega, fun s h _ => BB.out s h, hown, BL.out⟩
          case round =>
            clear BB BL LEN hown hw m
            obtain ⟨q, m, rfl, rfl, hq, hqn, hw, hs, hs', hown, hbel⟩ := hrel
            have hlen := hw.len
            rw [← N.out] at hlen
            have LEN := hid hlen
            have BL := hid hbel
            have QD := hid hq
            have DD := hid (show bs ∣ d from ⟨2, by have := D.out; omega⟩)
            clear hlen hbel hq
            by_cases hlt' : q + d ≤ n
            · have hc := sym_any q (q + bs) (q + d) (by omega) (by have := D.out; omega) g off cap m wr (by have := LEN.out; omega) (by have := LEN.out; omega)
                ((hs' q (Nat.dvd_trans DD.out QD.out) (Nat.le_refl _)).sub (Nat.le_refl _) (by have := D.out; omega))
                ((hs' (q + bs) (Nat.dvd_add (Nat.dvd_trans DD.out QD.out) (Nat.dvd_refl _)) (by omega)).sub (Nat.le_refl _) (by have := D.out; omega)) hown
              rw [LEN.out] at hc
              have HC := hid hc
              have hlt2 : (q : Int) + (d : Int) ≤ (n : Int) := by omega
              clear hc hown
              go_wp2_with fail
              refine HC.out.mono ?_
              rintro e w' ⟨rfl, m', hw', hs2, hown', hbel'⟩
              go_wp2
              go_roundw
              case rel =>
                refine ⟨q + d, m', by go_num, by go_num, Nat.dvd_add QD.out (Nat.dvd_refl _), hlt', hw.trans (hw'.mono (Nat.zero_le _) hlt'), fun s h1 h2 => ?_, fun s h1 h2 => (hs' s h1 (by omega)).keep hw' (Or.inr h2), hown', BL.out.trans hbel'⟩
                by_cases e : s < q
                · exact (hs s h1 e).keep hw' (Or.inl (dvd_step h1 QD.out e))
                · have : s = q := by
                    by_cases e' : q < s
                    · have := dvd_step QD.out h1 e'; omega
                    · omega
                  rw [this]; exact hs2
              case measure => simp [intOf]; omega
            · have hlt2 : ¬ (q : Int) + (d : Int) ≤ (n : Int) := by omega
              by_cases hm : q + bs < n
              · have hc := sym_any q (q + bs) n (by omega) hm g off cap m wr (by have := LEN.out; omega) (by have := LEN.out; omega)
                  ((hs' q (Nat.dvd_trans DD.out QD.out) (Nat.le_refl _)).sub (Nat.le_refl _) (by omega))
                  ((hs' (q + bs) (Nat.dvd_add (Nat.dvd_trans DD.out QD.out) (Nat.dvd_refl _)) (by omega)).sub (Nat.le_refl _) (by have := D.out; omega)) hown
                rw [LEN.out] at hc
                have HC := hid hc
                have hm2 : (q : Int) + (bs : Int) < (n : Int) := by omega
                obtain ⟨r, hr⟩ : ∃ r, r = q + bs := ⟨_, rfl⟩
                have hir : (q : Int) + (bs : Int) = (r : Int) := by omega
                rw [← hr] at HC
                have hm3 : r < n := by omega
                have R := hid hr
                clear hc hown hr hm2
                go_wp2_with fail
                refine HC.out.mono ?_
                rintro e w' ⟨rfl, m', hw', hs2, hown', hbel'⟩
                go_wp2
                go_roundw
                case rel =>
                  refine ⟨d, m', rfl, by omega, by omega, hw.trans (hw'.mono (Nat.zero_le _) (Nat.le_refl _)), fun s h1 => ?_, hown', BL.out.trans hbel'⟩
                  by_cases e : s < q
                  · have h3 := dvd_step h1 QD.out e
                    exact ((hs s h1 e).keep hw' (Or.inl h3)).sub (Nat.le_refl _) (by omega)
                  · by_cases e' : q < s
                    · have h3 := dvd_step QD.out h1 e'
                      exact sortedOn_short (by omega)
                    · have : s = q := by omega
                      rw [this]; exact hs2.sub (Nat.le_refl _) (by omega)
                case measure => have := D.out; simp [intOf]; omega
              · have hm2 : ¬ (q : Int) + (bs : Int) < (n : Int) := by omega
                go_wp2
                go_roundw
                case rel =>
                  refine ⟨d, m, rfl, by omega, by omega, hw, fun s h1 => ?_, hown, BL.out⟩
                  by_cases e : s < q
                  · have h3 := dvd_step h1 QD.out e
                    exact (hs s h1 e).sub (Nat.le_refl _) (by omega)
                  · by_cases e' : q < s
                    · have h3 := dvd_step QD.out h1 e'
                      exact sortedOn_short (by omega)
                    · have : s = q := by omega
                      rw [this]; exact (hs' q (Nat.dvd_trans DD.out QD.out) (Nat.le_refl _)).sub (Nat.le_refl _) (by omega)
                case measure => have := D.out; simp [intOf]; omega
        · go_wp2
          go_end0
          exact ⟨rfl, m, hw, (BB.out 0 (Nat.dvd_zero _)).sub (Nat.le_refl _) (by omega), hown, BL.out⟩
end Go.Proofs.Ytjjahhiaelaocaa
