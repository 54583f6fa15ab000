/- The walk of the library's merge in place where the second stretch is one entry. -/
import Derived.Test.YtjjahhiaelaocaaSymA
namespace Go.Proofs.Ytjjahhiaelaocaa
open Go.ChangeShapes Go.WideShapes Go.ChangeAt Go.RowKit

/-- c is l with the entry at m brought down to place k, those between one place up -/
def Dn (l c : List (Int × Int)) (m k : Nat) : Prop := (∀ q, k < q → q ≤ m → ent c q = ent l (q - 1)) ∧ ent c k = ent l m ∧ ∀ q, q < k ∨ m < q → ent c q = ent l q

theorem Dn.step {l c : List (Int × Int)} {m k : Nat} (h : Dn l c m (k + 1)) (hak : k + 1 ≤ m) (hk : m < c.length) : Dn l (swp c (k + 1) k) m k := by
  obtain ⟨h1, h2, h3⟩ := h
  refine ⟨fun q hq1 hq2 => ?_, ?_, fun q hq => ?_⟩
  · by_cases e : q = k + 1
    · subst e; rw [swp_left (by omega) (by omega)]; exact h3 _ (by omega)
    · rw [swp_other (by omega) (by omega)]; exact h1 q (by omega) hq2
  · rw [swp_right (by omega)]; exact h2
  · rw [swp_other (by omega) (by omega)]; exact h3 q (by omega)

theorem Dn.sorted {l c : List (Int × Int)} {a i m : Nat} (h : Dn l c m i) (hi : a ≤ i) (him : i ≤ m) (hs : SortedOn l a m) (h1 : i = a ∨ befE (ent l m) (ent l (i - 1)) = false) (h2 : i = m ∨ befE (ent l m) (ent l i) = true) : SortedOn c a (m + 1) := by
  obtain ⟨u1, u2, u3⟩ := h
  have lo : ∀ q, a ≤ q → q < i → befE (ent l m) (ent l q) = false := fun q hq1 hq2 => by
    rcases h1 with h1 | h1
    · omega
    · by_cases e : q = i - 1
      · rw [e]; exact h1
      · exact befE_le_trans (hs q (i - 1) (by omega) (by omega) (by omega)) h1
  have hi' : ∀ q, i ≤ q → q < m → befE (ent l q) (ent l m) = false := fun q hq1 hq2 => by
    rcases h2 with h2 | h2
    · omega
    · by_cases e : q = i
      · rw [e]; exact befE_asymm h2
      · exact befE_le_trans (befE_asymm h2) (hs i q (by omega) (by omega) hq2)
  intro p q hp hpq hq
  by_cases e1 : p < i
  · rw [u3 p (by omega)]
    by_cases e2 : q < i
    · rw [u3 q (by omega)]; exact hs _ _ (by omega) (by omega) (by omega)
    · by_cases e3 : q = i
      · rw [e3, u2]; exact lo p hp e1
      · rw [u1 q (by omega) (by omega)]; exact hs _ _ (by omega) (by omega) (by omega)
  · by_cases e3 : p = i
    · rw [e3, u2, u1 q (by omega) (by omega)]; exact hi' _ (by omega) (by omega)
    · rw [u1 p (by omega) (by omega), u1 q (by omega) (by omega)]; exact hs _ _ (by omega) (by omega) (by omega)

set_option maxRecDepth 100000 in
set_option maxHeartbeats 4000000 in
theorem symLast_any (g off cap a m b : Nat) (l : List (Int × Int)) (w : World) (ham : a + 1 < m) (hmb : b = m + 1) (hbl : b ≤ l.length) (hl : l.length ≤ 1000000) (hsb : SortedOn l a m) (ho : Own w g off l) :
    Calls Try.prog 37 #[.slice (some ⟨g, off, none⟩) l.length cap, .int .i64 a, .int .i64 m, .int .i64 b, .func (.func 19) #[] #[]] w fun e w' =>
      e = .returned (.tuple #[]) ∧ ∃ l', Within a b l l' ∧ SortedOn l' a b ∧ Own w' g off l' ∧ Below g w w' := by
  have hma : (((m : Int) - (a : Int)) == 1) = false := by rw [beq_eq_false_iff_ne]; omega
  have hbm : (b : Int) - (m : Int) = 1 := by omega
  have hml : m < l.length := by omega
  have HM := hid hmb
  clear hmb
  go_enter Try.func37, Try.ntmps37
  go_wp2
  go_loopw [14, 15] (fun iv jv wr => ∃ (i j : Nat), iv = .int .i64 i ∧ jv = .int .i64 j ∧ a ≤ i ∧ i ≤ j ∧ j ≤ m ∧ (i = a ∨ befE (ent l m) (ent l (i - 1)) = false) ∧ (j = m ∨ befE (ent l m) (ent l j) = true) ∧ Own wr g off l ∧ Below g w wr) (fun i j _ => (intOf j).toNat - (intOf i).toNat)
  case atStart => exact ⟨a, m, rfl, rfl, Nat.le_refl _, by omega, Nat.le_refl _, Or.inl rfl, Or.inl rfl, ho, Below.refl _ _⟩
  case round =>
    obtain ⟨i, j, rfl, rfl, hi, hij, hj, hq1, hq2, hown, hbel⟩ := hrel
    have Q1 := hid hq1
    have Q2 := hid hq2
    have SB := hid hsb
    have BL := hid hbel
    clear hq1 hq2 hsb ho hbel
    by_cases hlt : i < j
    · obtain ⟨h, hh⟩ : ∃ h, h = (i + j) / 2 := ⟨_, rfl⟩
      have hih : ((i : Int) + (j : Int)) / 2 = (h : Int) := by omega
      have HH := hid hh
      have hhl : h < l.length := by omega
      obtain ⟨h1, h2⟩ := hown.row h hhl
      obtain ⟨h3, h4⟩ := hown.row m hml
      have hg := hown.lt
      generalize hx : ent l h = x at h1 h2
      generalize hy : ent l m = y at h3 h4
      have HX := hid hx
      have HY := hid hy
      clear hx hy hh
      go_wp2
      go_region_held3 (fun w' => w'.cell? ⟨g, off + h * 2, none⟩ = some (.int .i64 x.1) ∧ w'.cell? ⟨g, off + h * 2 + 1, none⟩ = some (.int .i64 x.2) ∧ w'.cell? ⟨g, off + m * 2, none⟩ = some (.int .i64 y.1) ∧ w'.cell? ⟨g, off + m * 2 + 1, none⟩ = some (.int .i64 y.2)) (simp [go_sem, *])
        (first | (go_at_call 19; refine (compare_any _ _ _ _ _).mono ?_; rintro e w' ⟨rfl, hbc⟩; have k1 := (hbc.cell (p := ⟨g, off + h * 2, none⟩) hg).trans h1; have k2 := (hbc.cell (p := ⟨g, off + h * 2 + 1, none⟩) hg).trans h2; have k3 := (hbc.cell (p := ⟨g, off + m * 2, none⟩) hg).trans h3; have k4 := (hbc.cell (p := ⟨g, off + m * 2 + 1, none⟩) hg).trans h4))
      rename_i hH
      clear hH h1 h2 h3 h4 k1 k2 k3 k4
      have OW := hid (hown.below hg (below_undrew hbc))
      have BL' := hid (BL.out.trans ((below_undrew hbc).mono (Nat.le_of_lt hg)))
      clear hown hbc hg BL
      rw [cmp_dec]
      generalize hr : befE y x = r
      have HR := hid hr
      clear hr
      cases r
      · go_wp2
        go_roundw
        case rel => exact ⟨h + 1, j, by go_num, rfl, by have := HH.out; omega, by have := HH.out; omega, hj, Or.inr (by rw [Nat.add_sub_cancel, HX.out]; exact HR.out), by have q := Q2.out; rw [HY.out] at q; exact q, OW.out, BL'.out⟩
        case measure => have := HH.out; simp [intOf]; omega
      · go_wp2
        go_roundw
        case rel => exact ⟨i, h, rfl, rfl, hi, by have := HH.out; omega, by have := HH.out; omega, by have q := Q1.out; rw [HY.out] at q; exact q, Or.inr (by rw [HX.out]; exact HR.out), OW.out, BL'.out⟩
        case measure => have := HH.out; simp [intOf]; omega
    · obtain rfl : i = j := by omega
      go_wp2
      go_loopw [17] (fun kv wr => ∃ (k : Nat) (c : List (Int × Int)), kv = .int .i64 k ∧ i ≤ k ∧ k ≤ m ∧ Within a b l c ∧ Dn l c m k ∧ Own wr g off c ∧ Below g w wr) (fun k _ => (intOf k).toNat)
      case atStart => exact ⟨m, l, rfl, by omega, Nat.le_refl _, Within.refl _ _ _, ⟨fun q h1 h2 => by omega, rfl, fun _ _ => rfl⟩, hown, BL.out⟩
      case round =>
        clear hown BL
        obtain ⟨k, c, rfl, hak, hki, hw, hu, hown, hbel⟩ := hrel
        have hlen := hw.len
        by_cases hlt' : i < k
        · obtain ⟨j, hj'⟩ : ∃ j, k = j + 1 := ⟨k - 1, by omega⟩
          have hkj : (k : Int) - 1 = (j : Int) := by omega
          have hkl : k < l.length := by omega
          have hjl : j < l.length := by omega
          have hwj : IntKind.i64.wrap (j : Int) = j := IntWalk.i64_in _ (by omega)
          have HJ := hid hj'
          have HLEN := hid hlen
          obtain ⟨h1, h2⟩ := hown.row k (by omega)
          obtain ⟨h3, h4⟩ := hown.row j (by omega)
          have fz := hown.fz
          have hg := hown.lt
          generalize hx : ent c k = x at h1 h2
          generalize hy : ent c j = y at h3 h4
          have HX := hid hx
          have HY := hid hy
          have OW := hid hown
          have BL := hid hbel
          clear hx hy hown hbel hlen hj'
          go_wp2
          go_region
          go_wp2
          go_roundw
          case rel =>
            have hlen := HLEN.out
            have e := HJ.out
            have hb := HM.out
            have hu' := hu
            rw [e] at hu'
            have st := hu'.step (by omega) (by omega)
            rw [← e] at st
            exact ⟨j, swp c k j, rfl, by omega, by omega, hw.trans (Within.swp (by omega) (by omega) (by omega) (by omega) (by omega)), st, OW.out.swp (by omega) (by omega) HX.out HY.out, below_swp BL.out (Nat.le_refl _) _ _ _ _ _ _ _ _⟩
          case measure => have := HJ.out; simp [intOf]; omega
        · have e : k = i := by omega
          have E := hid e
          have OW := hid hown
          have BL := hid hbel
          clear e hlen hown hbel
          go_wp2
          refine bodyPost_ret (results_none rfl _ _ _) rfl ?_
          have em := HM.out
          subst em
          have e := E.out
          subst e
          exact ⟨rfl, c, hw, hu.sorted hi (by omega) SB.out Q1.out Q2.out, OW.out, BL.out⟩
end Go.Proofs.Ytjjahhiaelaocaa
