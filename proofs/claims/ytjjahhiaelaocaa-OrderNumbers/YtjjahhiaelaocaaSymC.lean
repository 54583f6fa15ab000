/- The walk of the library's merge in place of two stretches in order: the row is in order behind it. -/
import Derived.Test.YtjjahhiaelaocaaMrg
import Derived.Deep.DeepCutAuto
namespace Go.Proofs.Ytjjahhiaelaocaa
open Go.ChangeShapes Go.WideShapes Go.ChangeAt Go.RowKit

/-- what the merge does at a .. m .. b -/
def SymOk (a m b : Nat) : Prop := ∀ (g off cap : Nat) (l : List (Int × Int)) (w : World), b ≤ l.length → l.length ≤ 1000000 → SortedOn l a m → SortedOn l m b → Own w g off l →
    Calls Try.prog 37 #[.slice (some ⟨g, off, none⟩) l.length cap, .int .i64 a, .int .i64 m, .int .i64 b, .func (.func 19) #[] #[]] w fun e w' =>
      e = .returned (.tuple #[]) ∧ ∃ l', Within a b l l' ∧ SortedOn l' a b ∧ Own w' g off l' ∧ Below g w w'

set_option maxRecDepth 100000 in
set_option maxHeartbeats 4000000 in
theorem symRest_any (g off cap a m b : Nat) (l : List (Int × Int)) (w : World) (ham : a + 1 < m) (hmb : m + 1 < b) (hbl : b ≤ l.length) (hl : l.length ≤ 1000000)
    (hsa : SortedOn l a m) (hsb : SortedOn l m b) (ho : Own w g off l)
    (ih : ∀ a' m' b', b' - a' < b - a → a' < m' → m' < b' → SymOk a' m' b') :
    Calls Try.prog 37 #[.slice (some ⟨g, off, none⟩) l.length cap, .int .i64 a, .int .i64 m, .int .i64 b, .func (.func 19) #[] #[]] w fun e w' =>
      e = .returned (.tuple #[]) ∧ ∃ l', Within a b l l' ∧ SortedOn l' a b ∧ Own w' g off l' ∧ Below g w w' := by
  have hma : (((m : Int) - (a : Int)) == 1) = false := by rw [beq_eq_false_iff_ne]; omega
  have hbm : (((b : Int) - (m : Int)) == 1) = false := by rw [beq_eq_false_iff_ne]; omega
  obtain ⟨mid, hmid⟩ : ∃ h, h = (a + b) / 2 := ⟨_, rfl⟩
  have himid : ((a : Int) + (b : Int)) / 2 = (mid : Int) := by omega
  obtain ⟨n, hn⟩ : ∃ n, n = mid + m := ⟨_, rfl⟩
  have hin : (mid : Int) + (m : Int) = (n : Int) := by omega
  obtain ⟨p, hp⟩ : ∃ p, n = p + 1 := ⟨n - 1, by omega⟩
  have hip : (n : Int) - 1 = (p : Int) := by omega
  have hp1 : p < 3000000 := by omega
  have hn1 : n < 3000000 := by omega
  have hm1 : mid < 3000000 := by omega
  have MID := hid hmid
  have N := hid hn
  have P := hid hp
  have IH := hid ih
  have SA := hid hsa
  have SB := hid hsb
  clear hmid hn hp ih hsa hsb
  have hst : ∃ s0 r0 : Nat, a ≤ s0 ∧ s0 ≤ r0 ∧ r0 ≤ m ∧ r0 ≤ mid ∧ n ≤ s0 + b ∧ (a < s0 → n - s0 < b → befE (ent l (n - s0)) (ent l (s0 - 1)) = false) ∧ (r0 < m → r0 < mid → befE (ent l (p - r0)) (ent l r0) = true) ∧
      ((mid < m ∧ n = s0 + b ∧ mid = r0) ∨ (¬ mid < m ∧ a = s0 ∧ m = r0)) := by
    have e1 := MID.out
    have e2 := N.out
    by_cases hmm : mid < m
    · exact ⟨n - b, mid, by omega, by omega, by omega, by omega, by omega, fun h1 h2 => by omega, fun h1 h2 => by omega, Or.inl ⟨hmm, by omega, rfl⟩⟩
    · exact ⟨a, m, by omega, by omega, by omega, by omega, by omega, fun h1 h2 => by omega, fun h1 h2 => by omega, Or.inr ⟨hmm, rfl, rfl⟩⟩
  obtain ⟨s0, r0, f1, f2, f3, f4, f5, f6, f7, f8⟩ := hst
  have F := hid (And.intro f1 (And.intro f2 (And.intro f3 (And.intro f4 (And.intro f5 (And.intro f6 f7))))))
  clear f1 f2 f3 f4 f5 f6 f7
  rcases f8 with ⟨hmm, hs0, rfl⟩ | ⟨hmm, rfl, rfl⟩
  · have his : (n : Int) - (b : Int) = (s0 : Int) := by omega
    clear hs0
    go_enter Try.func37, Try.ntmps37
    go_wp2
    go_loopw [20, 21] (fun sv rv wr => ∃ (s r : Nat), sv = .int .i64 s ∧ rv = .int .i64 r ∧ (a ≤ s ∧ s ≤ r ∧ r ≤ m ∧ r ≤ mid ∧ n ≤ s + b ∧ (a < s → n - s < b → befE (ent l (n - s)) (ent l (s - 1)) = false) ∧ (r < m → r < mid → befE (ent l (p - r)) (ent l r) = true)) ∧ Own wr g off l ∧ Below g w wr) (fun s r _ => (intOf r).toNat - (intOf s).toNat)
    case atStart => exact ⟨_, _, rfl, rfl, F.out, ho, Below.refl _ _⟩
    case round => 
      clear F ho
      obtain ⟨s, r, rfl, rfl, ⟨f1, f2, f3, f4, f5, f6, f7⟩, hown, hbel⟩ := hrel
      have BL := hid hbel
      have LO := hid f6
      have HI := hid f7
      clear hbel f6 f7
      by_cases hlt : s < r
      · obtain ⟨c, hc⟩ : ∃ c, c = (s + r) / 2 := ⟨_, rfl⟩
        have hic : ((s : Int) + (r : Int)) / 2 = (c : Int) := by omega
        obtain ⟨d, hd⟩ : ∃ d, p = d + c := ⟨p - c, by have := N.out; have := P.out; omega⟩
        have hid' : (p : Int) - (c : Int) = (d : Int) := by omega
        have hwd : IntKind.i64.wrap (d : Int) = d := IntWalk.i64_in _ (by omega)
        have hcl : c < l.length := by omega
        have hdl : d < l.length := by have := N.out; have := P.out; omega
        have C := hid hc
        have D := hid hd
        obtain ⟨h1, h2⟩ := hown.row c hcl
        obtain ⟨h3, h4⟩ := hown.row d hdl
        have hg := hown.lt
        generalize hx : ent l c = x at h1 h2
        generalize hy : ent l d = y at h3 h4
        have HX := hid hx
        have HY := hid hy
        clear hx hy hc hd
        go_wp2
        go_region_held3 (fun w' => w'.cell? ⟨g, off + c * 2, none⟩ = some (.int .i64 x.1) ∧ w'.cell? ⟨g, off + c * 2 + 1, none⟩ = some (.int .i64 x.2) ∧ w'.cell? ⟨g, off + d * 2, none⟩ = some (.int .i64 y.1) ∧ w'.cell? ⟨g, off + d * 2 + 1, none⟩ = some (.int .i64 y.2)) (simp [go_sem, *])
          (first | (go_at_call 19; refine (compare_any _ _ _ _ _).mono ?_; rintro e w' ⟨rfl, hbc⟩; have k1 := (hbc.cell (p := ⟨g, off + c * 2, none⟩) hg).trans h1; have k2 := (hbc.cell (p := ⟨g, off + c * 2 + 1, none⟩) hg).trans h2; have k3 := (hbc.cell (p := ⟨g, off + d * 2, none⟩) hg).trans h3; have k4 := (hbc.cell (p := ⟨g, off + d * 2 + 1, none⟩) hg).trans h4))
        rename_i hH
        clear hH h1 h2 h3 h4 k1 k2 k3 k4
        have OW := hid (hown.below hg (below_undrew hbc))
        have BL' := hid (BL.out.trans ((below_undrew hbc).mono (Nat.le_of_lt hg)))
        clear hown hbc hg BL
        rw [cmp_dec]
        generalize hr : befE y x = t
        have HR := hid hr
        clear hr
        cases t
        · go_wp2
          go_roundw
          case rel =>
            have e1 := C.out
            have e2 := D.out
            have e3 := P.out
            refine ⟨c + 1, r, by go_num, rfl, ⟨by omega, by omega, f3, f4, by omega, fun _ _ => ?_, HI.out⟩, OW.out, BL'.out⟩
            rw [Nat.add_sub_cancel, show n - (c + 1) = d by omega, HX.out, HY.out]; exact HR.out
          case measure => have := C.out; simp [intOf]; omega
        · go_wp2
          go_roundw
          case rel =>
            have e1 := C.out
            have e2 := D.out
            refine ⟨s, c, rfl, rfl, ⟨f1, by omega, by omega, by omega, f5, LO.out, fun _ _ => ?_⟩, OW.out, BL'.out⟩
            rw [show p - c = d by omega, HX.out, HY.out]; exact HR.out
          case measure => have := C.out; simp [intOf]; omega
      · obtain rfl : s = r := by omega
        obtain ⟨e, he⟩ : ∃ e, n = e + s := ⟨n - s, by have := N.out; omega⟩
        have hie : (n : Int) - (s : Int) = (e : Int) := by omega
        have E := hid he
        clear he
        have CUT : Hid (Cut l a m b mid s e) := by
          have e1 := E.out
          have e2 := N.out
          have e3 := P.out
          refine ⟨SA.out, SB.out, f1, f3, f4, by omega, by omega, by omega, by omega, fun h1 h2 => ?_, fun h1 h2 => ?_⟩
          · have := LO.out h1 (by omega)
            rwa [show n - s = e by omega] at this
          · have := HI.out h1 (by omega)
            rwa [show p - s = e - 1 by omega] at this
        have heb := CUT.out.eb
        have hme := CUT.out.me
        have hmide := CUT.out.mide
        have hsum := CUT.out.sum
        have SUM := hid hsum
        clear LO HI hsum
        go_upto_region 39 with fail
        go_cut [185] from 178 to 185 (fun v wx => v = .bool (decide (s < m ∧ m < e)) ∧ wx = wr)
        case first =>
          by_cases c1 : s < m
          · by_cases c2 : m < e
            · have c3 : decide (s < m ∧ m < e) = true := decide_eq_true ⟨c1, c2⟩
              go_wp2_with fail
              go_meet
              case rel => exact ⟨by rw [c3], rfl⟩
            · have c3 : decide (s < m ∧ m < e) = false := decide_eq_false (by omega)
              go_wp2_with fail
              go_meet
              case rel => exact ⟨by rw [c3], rfl⟩
          · have c3 : decide (s < m ∧ m < e) = false := decide_eq_false (by omega)
            go_wp2_with fail
            go_meet
            case rel => exact ⟨by rw [c3], rfl⟩
        case rest =>
        obtain ⟨rfl, rfl⟩ := hcut
        go_upto_if 185 with fail
        go_cut [] from 185 to 191 (fun wc => ∃ l1, Within a b l l1 ∧ (∀ q, ent l1 q = ent l (from' m (m - s) (e - m) q)) ∧ Own wc g off l1 ∧ Below g w wc)
        case first =>
          by_cases c1 : s < m ∧ m < e
          · have c3 : decide (s < m ∧ m < e) = true := decide_eq_true c1
            rw [c3]
            obtain ⟨c2, c3⟩ := c1
            have hc := rotate_any g off cap s m e l _ c2 c3 (by omega) hl hown
            have HC := hid hc
            clear hc
            go_wp2_with fail
            refine HC.out.mono ?_
            rintro e' w' ⟨rfl, l1, hw1, hq1, hown1, hbel1⟩
            go_wp2_with fail
            go_meet
            case rel => exact ⟨l1, hw1.mono f1 heb, hq1, hown1, BL.out.trans hbel1⟩
          · have c3 : decide (s < m ∧ m < e) = false := decide_eq_false c1
            rw [c3]
            go_wp2_with fail
            go_meet
            case rel => exact ⟨l, Within.refl _ _ _, fun q => by rw [from_id (by omega) (by omega)], hown, BL.out⟩
        case rest =>
        clear hown BL
        obtain ⟨l1, hw1, hq1, hown1, hbel1⟩ := hcut
        have PL := hid (CUT.out.left hq1)
        have PR := hid (CUT.out.right hq1)
        have hlen1 := hw1.len
        have LEN1 := hid hlen1
        have Q1 := hid hq1
        clear hlen1 hq1
        go_upto_region 41 with fail
        go_cut [199] from 192 to 199 (fun v wx => v = .bool (decide (a < s ∧ s < mid)) ∧ wx = wc)
        case first =>
          by_cases c1 : a < s
          · by_cases c2 : s < mid
            · have c3 : decide (a < s ∧ s < mid) = true := decide_eq_true ⟨c1, c2⟩
              go_wp2_with fail
              go_meet
              case rel => exact ⟨by rw [c3], rfl⟩
            · have c3 : decide (a < s ∧ s < mid) = false := decide_eq_false (by omega)
              go_wp2_with fail
              go_meet
              case rel => exact ⟨by rw [c3], rfl⟩
          · have c3 : decide (a < s ∧ s < mid) = false := decide_eq_false (by omega)
            go_wp2_with fail
            go_meet
            case rel => exact ⟨by rw [c3], rfl⟩
        case rest =>
        obtain ⟨rfl, rfl⟩ := hcut
        go_upto_if 199 with fail
        go_cut [] from 199 to 205 (fun wx => ∃ l2, Within a mid l1 l2 ∧ SortedOn l2 a mid ∧ Own wx g off l2 ∧ Below g w wx)
        case first =>
          by_cases c1 : a < s ∧ s < mid
          · have c3 : decide (a < s ∧ s < mid) = true := decide_eq_true c1
            rw [c3]
            obtain ⟨c2, c3⟩ := c1
            have hc := IH.out a s mid (by have := MID.out; omega) c2 c3 g off cap l1 _ (by have := LEN1.out; omega) (by have := LEN1.out; omega) PL.out.1 PL.out.2 hown1
            rw [LEN1.out] at hc
            have HC := hid hc
            clear hc
            go_wp2_with fail
            refine HC.out.mono ?_
            rintro e' w' ⟨rfl, l2, hw2, hs2, hown2, hbel2⟩
            go_wp2_with fail
            go_meet
            case rel => exact ⟨l2, hw2, hs2, hown2, hbel1.trans hbel2⟩
          · have c3 : decide (a < s ∧ s < mid) = false := decide_eq_false c1
            rw [c3]
            go_wp2_with fail
            go_meet
            case rel => exact ⟨l1, Within.refl _ _ _, sorted_join (by omega) PL.out.1 PL.out.2, hown1, hbel1⟩
        case rest =>
        clear hown1 hbel1
        obtain ⟨l2, hw2, hs2, hown2, hbel2⟩ := hcut
        have hlen2 := hw2.len
        have LEN2 := hid hlen2
        have ER : SortedOn l2 mid e ∧ SortedOn l2 e b := by
          refine ⟨fun i j h1 h2 h3 => ?_, fun i j h1 h2 h3 => ?_⟩
          · rw [hw2.out i (by omega), hw2.out j (by omega)]; exact PR.out.1 i j h1 h2 h3
          · rw [hw2.out i (by omega), hw2.out j (by omega)]; exact PR.out.2 i j h1 h2 h3
        have PR2 := hid ER
        clear hlen2 ER PR PL
        by_cases c1 : mid < e
        · by_cases c2 : e < b
          · have hc := IH.out mid e b (by have := MID.out; omega) c1 c2 g off cap l2 _ (by have := LEN1.out; have := LEN2.out; omega) (by have := LEN1.out; have := LEN2.out; omega) PR2.out.1 PR2.out.2 hown2
            rw [LEN2.out, LEN1.out] at hc
            have HC := hid hc
            clear hc
            go_wp2_with fail
            refine HC.out.mono ?_
            rintro e' w' ⟨rfl, l3, hw3, hs3, hown3, hbel3⟩
            go_wp2_with fail
            go_end0
            exact ⟨rfl, l3, hw1.trans ((hw2.mono (Nat.le_refl _) (by omega)).trans (hw3.mono (by omega) (Nat.le_refl _))), CUT.out.fin Q1.out hw2 hs2 hw3 hs3, hown3, hbel2.trans hbel3⟩
          · go_wp2_with fail
            go_end0
            exact ⟨rfl, l2, hw1.trans (hw2.mono (Nat.le_refl _) (by omega)), CUT.out.fin Q1.out hw2 hs2 (Within.refl _ _ _) (sorted_join (by omega) PR2.out.1 PR2.out.2), hown2, hbel2⟩
        · go_wp2_with fail
          go_end0
          exact ⟨rfl, l2, hw1.trans (hw2.mono (Nat.le_refl _) (by omega)), CUT.out.fin Q1.out hw2 hs2 (Within.refl _ _ _) (sorted_join (by omega) PR2.out.1 PR2.out.2), hown2, hbel2⟩
  · go_enter Try.func37, Try.ntmps37
    go_wp2
    go_loopw [20, 21] (fun sv rv wr => ∃ (s r : Nat), sv = .int .i64 s ∧ rv = .int .i64 r ∧ (a ≤ s ∧ s ≤ r ∧ r ≤ m ∧ r ≤ mid ∧ n ≤ s + b ∧ (a < s → n - s < b → befE (ent l (n - s)) (ent l (s - 1)) = false) ∧ (r < m → r < mid → befE (ent l (p - r)) (ent l r) = true)) ∧ Own wr g off l ∧ Below g w wr) (fun s r _ => (intOf r).toNat - (intOf s).toNat)
    case atStart => exact ⟨_, _, rfl, rfl, F.out, ho, Below.refl _ _⟩
    case round => 
      clear F ho
      obtain ⟨s, r, rfl, rfl, ⟨f1, f2, f3, f4, f5, f6, f7⟩, hown, hbel⟩ := hrel
      have BL := hid hbel
      have LO := hid f6
      have HI := hid f7
      clear hbel f6 f7
      by_cases hlt : s < r
      · obtain ⟨c, hc⟩ : ∃ c, c = (s + r) / 2 := ⟨_, rfl⟩
        have hic : ((s : Int) + (r : Int)) / 2 = (c : Int) := by omega
        obtain ⟨d, hd⟩ : ∃ d, p = d + c := ⟨p - c, by have := N.out; have := P.out; omega⟩
        have hid' : (p : Int) - (c : Int) = (d : Int) := by omega
        have hwd : IntKind.i64.wrap (d : Int) = d := IntWalk.i64_in _ (by omega)
        have hcl : c < l.length := by omega
        have hdl : d < l.length := by have := N.out; have := P.out; omega
        have C := hid hc
        have D := hid hd
        obtain ⟨h1, h2⟩ := hown.row c hcl
        obtain ⟨h3, h4⟩ := hown.row d hdl
        have hg := hown.lt
        generalize hx : ent l c = x at h1 h2
        generalize hy : ent l d = y at h3 h4
        have HX := hid hx
        have HY := hid hy
        clear hx hy hc hd
        go_wp2
        go_region_held3 (fun w' => w'.cell? ⟨g, off + c * 2, none⟩ = some (.int .i64 x.1) ∧ w'.cell? ⟨g, off + c * 2 + 1, none⟩ = some (.int .i64 x.2) ∧ w'.cell? ⟨g, off + d * 2, none⟩ = some (.int .i64 y.1) ∧ w'.cell? ⟨g, off + d * 2 + 1, none⟩ = some (.int .i64 y.2)) (simp [go_sem, *])
          (first | (go_at_call 19; refine (compare_any _ _ _ _ _).mono ?_; rintro e w' ⟨rfl, hbc⟩; have k1 := (hbc.cell (p := ⟨g, off + c * 2, none⟩) hg).trans h1; have k2 := (hbc.cell (p := ⟨g, off + c * 2 + 1, none⟩) hg).trans h2; have k3 := (hbc.cell (p := ⟨g, off + d * 2, none⟩) hg).trans h3; have k4 := (hbc.cell (p := ⟨g, off + d * 2 + 1, none⟩) hg).trans h4))
        rename_i hH
        clear hH h1 h2 h3 h4 k1 k2 k3 k4
        have OW := hid (hown.below hg (below_undrew hbc))
        have BL' := hid (BL.out.trans ((below_undrew hbc).mono (Nat.le_of_lt hg)))
        clear hown hbc hg BL
        rw [cmp_dec]
        generalize hr : befE y x = t
        have HR := hid hr
        clear hr
        cases t
        · go_wp2
          go_roundw
          case rel =>
            have e1 := C.out
            have e2 := D.out
            have e3 := P.out
            refine ⟨c + 1, r, by go_num, rfl, ⟨by omega, by omega, f3, f4, by omega, fun _ _ => ?_, HI.out⟩, OW.out, BL'.out⟩
            rw [Nat.add_sub_cancel, show n - (c + 1) = d by omega, HX.out, HY.out]; exact HR.out
          case measure => have := C.out; simp [intOf]; omega
        · go_wp2
          go_roundw
          case rel =>
            have e1 := C.out
            have e2 := D.out
            refine ⟨s, c, rfl, rfl, ⟨f1, by omega, by omega, by omega, f5, LO.out, fun _ _ => ?_⟩, OW.out, BL'.out⟩
            rw [show p - c = d by omega, HX.out, HY.out]; exact HR.out
          case measure => have := C.out; simp [intOf]; omega
      · obtain rfl : s = r := by omega
        obtain ⟨e, he⟩ : ∃ e, n = e + s := ⟨n - s, by have := N.out; omega⟩
        have hie : (n : Int) - (s : Int) = (e : Int) := by omega
        have E := hid he
        clear he
        have CUT : Hid (Cut l a m b mid s e) := by
          have e1 := E.out
          have e2 := N.out
          have e3 := P.out
          refine ⟨SA.out, SB.out, f1, f3, f4, by omega, by omega, by omega, by omega, fun h1 h2 => ?_, fun h1 h2 => ?_⟩
          · have := LO.out h1 (by omega)
            rwa [show n - s = e by omega] at this
          · have := HI.out h1 (by omega)
            rwa [show p - s = e - 1 by omega] at this
        have heb := CUT.out.eb
        have hme := CUT.out.me
        have hmide := CUT.out.mide
        have hsum := CUT.out.sum
        have SUM := hid hsum
        clear LO HI hsum
        go_upto_region 39 with fail
        go_cut [185] from 178 to 185 (fun v wx => v = .bool (decide (s < m ∧ m < e)) ∧ wx = wr)
        case first =>
          by_cases c1 : s < m
          · by_cases c2 : m < e
            · have c3 : decide (s < m ∧ m < e) = true := decide_eq_true ⟨c1, c2⟩
              go_wp2_with fail
              go_meet
              case rel => exact ⟨by rw [c3], rfl⟩
            · have c3 : decide (s < m ∧ m < e) = false := decide_eq_false (by omega)
              go_wp2_with fail
              go_meet
              case rel => exact ⟨by rw [c3], rfl⟩
          · have c3 : decide (s < m ∧ m < e) = false := decide_eq_false (by omega)
            go_wp2_with fail
            go_meet
            case rel => exact ⟨by rw [c3], rfl⟩
        case rest =>
        obtain ⟨rfl, rfl⟩ := hcut
        go_upto_if 185 with fail
        go_cut [] from 185 to 191 (fun wc => ∃ l1, Within a b l l1 ∧ (∀ q, ent l1 q = ent l (from' m (m - s) (e - m) q)) ∧ Own wc g off l1 ∧ Below g w wc)
        case first =>
          by_cases c1 : s < m ∧ m < e
          · have c3 : decide (s < m ∧ m < e) = true := decide_eq_true c1
            rw [c3]
            obtain ⟨c2, c3⟩ := c1
            have hc := rotate_any g off cap s m e l _ c2 c3 (by omega) hl hown
            have HC := hid hc
            clear hc
            go_wp2_with fail
            refine HC.out.mono ?_
            rintro e' w' ⟨rfl, l1, hw1, hq1, hown1, hbel1⟩
            go_wp2_with fail
            go_meet
            case rel => exact ⟨l1, hw1.mono f1 heb, hq1, hown1, BL.out.trans hbel1⟩
          · have c3 : decide (s < m ∧ m < e) = false := decide_eq_false c1
            rw [c3]
            go_wp2_with fail
            go_meet
            case rel => exact ⟨l, Within.refl _ _ _, fun q => by rw [from_id (by omega) (by omega)], hown, BL.out⟩
        case rest =>
        clear hown BL
        obtain ⟨l1, hw1, hq1, hown1, hbel1⟩ := hcut
        have PL := hid (CUT.out.left hq1)
        have PR := hid (CUT.out.right hq1)
        have hlen1 := hw1.len
        have LEN1 := hid hlen1
        have Q1 := hid hq1
        clear hlen1 hq1
        go_upto_region 41 with fail
        go_cut [199] from 192 to 199 (fun v wx => v = .bool (decide (a < s ∧ s < mid)) ∧ wx = wc)
        case first =>
          by_cases c1 : a < s
          · by_cases c2 : s < mid
            · have c3 : decide (a < s ∧ s < mid) = true := decide_eq_true ⟨c1, c2⟩
              go_wp2_with fail
              go_meet
              case rel => exact ⟨by rw [c3], rfl⟩
            · have c3 : decide (a < s ∧ s < mid) = false := decide_eq_false (by omega)
              go_wp2_with fail
              go_meet
              case rel => exact ⟨by rw [c3], rfl⟩
          · have c3 : decide (a < s ∧ s < mid) = false := decide_eq_false (by omega)
            go_wp2_with fail
            go_meet
            case rel => exact ⟨by rw [c3], rfl⟩
        case rest =>
        obtain ⟨rfl, rfl⟩ := hcut
        go_upto_if 199 with fail
        go_cut [] from 199 to 205 (fun wx => ∃ l2, Within a mid l1 l2 ∧ SortedOn l2 a mid ∧ Own wx g off l2 ∧ Below g w wx)
        case first =>
          by_cases c1 : a < s ∧ s < mid
          · have c3 : decide (a < s ∧ s < mid) = true := decide_eq_true c1
            rw [c3]
            obtain ⟨c2, c3⟩ := c1
            have hc := IH.out a s mid (by have := MID.out; omega) c2 c3 g off cap l1 _ (by have := LEN1.out; omega) (by have := LEN1.out; omega) PL.out.1 PL.out.2 hown1
            rw [LEN1.out] at hc
            have HC := hid hc
            clear hc
            go_wp2_with fail
            refine HC.out.mono ?_
            rintro e' w' ⟨rfl, l2, hw2, hs2, hown2, hbel2⟩
            go_wp2_with fail
            go_meet
            case rel => exact ⟨l2, hw2, hs2, hown2, hbel1.trans hbel2⟩
          · have c3 : decide (a < s ∧ s < mid) = false := decide_eq_false c1
            rw [c3]
            go_wp2_with fail
            go_meet
            case rel => exact ⟨l1, Within.refl _ _ _, sorted_join (by omega) PL.out.1 PL.out.2, hown1, hbel1⟩
        case rest =>
        clear hown1 hbel1
        obtain ⟨l2, hw2, hs2, hown2, hbel2⟩ := hcut
        have hlen2 := hw2.len
        have LEN2 := hid hlen2
        have ER : SortedOn l2 mid e ∧ SortedOn l2 e b := by
          refine ⟨fun i j h1 h2 h3 => ?_, fun i j h1 h2 h3 => ?_⟩
          · rw [hw2.out i (by omega), hw2.out j (by omega)]; exact PR.out.1 i j h1 h2 h3
          · rw [hw2.out i (by omega), hw2.out j (by omega)]; exact PR.out.2 i j h1 h2 h3
        have PR2 := hid ER
        clear hlen2 ER PR PL
        by_cases c1 : mid < e
        · by_cases c2 : e < b
          · have hc := IH.out mid e b (by have := MID.out; omega) c1 c2 g off cap l2 _ (by have := LEN1.out; have := LEN2.out; omega) (by have := LEN1.out; have := LEN2.out; omega) PR2.out.1 PR2.out.2 hown2
            rw [LEN2.out, LEN1.out] at hc
            have HC := hid hc
            clear hc
            go_wp2_with fail
            refine HC.out.mono ?_
            rintro e' w' ⟨rfl, l3, hw3, hs3, hown3, hbel3⟩
            go_wp2_with fail
            go_end0
            exact ⟨rfl, l3, hw1.trans ((hw2.mono (Nat.le_refl _) (by omega)).trans (hw3.mono (by omega) (Nat.le_refl _))), CUT.out.fin Q1.out hw2 hs2 hw3 hs3, hown3, hbel2.trans hbel3⟩
          · go_wp2_with fail
            go_end0
            exact ⟨rfl, l2, hw1.trans (hw2.mono (Nat.le_refl _) (by omega)), CUT.out.fin Q1.out hw2 hs2 (Within.refl _ _ _) (sorted_join (by omega) PR2.out.1 PR2.out.2), hown2, hbel2⟩
        · go_wp2_with fail
          go_end0
          exact ⟨rfl, l2, hw1.trans (hw2.mono (Nat.le_refl _) (by omega)), CUT.out.fin Q1.out hw2 hs2 (Within.refl _ _ _) (sorted_join (by omega) PR2.out.1 PR2.out.2), hown2, hbel2⟩

theorem sym_all : ∀ (d a m b : Nat), b - a ≤ d → a < m → m < b → SymOk a m b
  | 0, a, m, b, hd, h1, h2 => by omega
  | d + 1, a, m, b, hd, h1, h2 => fun g off cap l w hb hl hsa hsb ho => by
    by_cases c1 : m = a + 1
    · exact symOne_any g off cap a m b l w c1 h2 hb hl hsb ho
    · by_cases c2 : b = m + 1
      · exact symLast_any g off cap a m b l w (by omega) c2 hb hl hsa ho
      · exact symRest_any g off cap a m b l w (by omega) (by omega) hb hl hsa hsb ho (fun a' m' b' h h3 h4 => sym_all d a' m' b' (by omega) h3 h4)

theorem sym_any (a m b : Nat) (h1 : a < m) (h2 : m < b) : SymOk a m b := sym_all (b - a) a m b (Nat.le_refl _) h1 h2
end Go.Proofs.Ytjjahhiaelaocaa
