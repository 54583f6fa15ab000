/- The walk of known: some of the chapter's runs. -/
import Derived.Test.YticpldlckdckdaaTr
namespace Go.Proofs.Yticpldlckdckdaa
open Go.ChangeShapes Go.WideShapes Go.ChangeAt Go.RowKit

theorem inv0 : Inv 0 id id := ⟨fun c h => by omega, fun c h => by omega, fun c h => by omega, fun c h => by omega⟩
theorem nxt_id (k : Nat) : nxt id k = id := by funext x; unfold nxt; split <;> simp_all
theorem newC (n : Nat) (hn : n ≤ 65536) (w : World) : Calls Try.prog 10 #[.int .i64 (n : Int)] w fun e w' => ∃ F pa pm, e = .returned (.pointer (some ⟨pa, 0, none⟩)) ∧ Hr w w' F pa pm n 0 id id 0 :=
  (newAH (n : Int) w).mono fun _ _ ⟨F, pa, pm, h1, h2⟩ => ⟨F, pa, pm, h1, ⟨_, h2, Vw.start n hn _ _, rfl⟩, inv0⟩
theorem meterC {w0 w : World} {F : Nat → Prop} {pa pm n k t : Nat} {R L : Nat → Int} (h : Hv w0 w F pa pm n k R L t) : Calls Try.prog 19 #[.pointer (some ⟨pa, 0, none⟩)] w fun e w' => e = .returned (.pointer (some ⟨pm, 0, none⟩)) ∧ w' = w := by
  obtain ⟨s, hs, _⟩ := h
  exact meterA pa pm s F w hs.is
theorem stepsC {w0 w : World} {F : Nat → Prop} {pa pm n k t : Nat} {R L : Nat → Int} (h : Hv w0 w F pa pm n k R L t) : Calls Try.prog 21 #[.pointer (some ⟨pm, 0, none⟩)] w fun e w' => e = .returned (.int .i64 (t : Int)) ∧ w' = w := by
  obtain ⟨s, hs, _, rfl⟩ := h
  exact stepsA pa pm s F w hs.is

def k1 : Nat → Nat := swN id id 0 1
def p1 : Nat → Nat := swP id id 0 1
def k2 : Nat → Nat := swN k1 p1 2 2
def p2 : Nat → Nat := swP k1 p1 2 2
def k3 : Nat → Nat := swN k2 p2 0 0
def p3 : Nat → Nat := swP k2 p2 0 0
theorem own_base {w : World} {b b' : Nat} {e : TypeId} {s : Nat} {v : Value} {n : Nat} {xs : List Value} (h : w.ownsRow b e s v n xs) (hb : b' ≤ b) : w.ownsRow b' e s v n xs := by
  refine ⟨h.1, ?_⟩
  rcases h.2 with h' | ⟨g, cap, cur, rfl, hb', r⟩
  · exact Or.inl h'
  · exact Or.inr ⟨g, cap, cur, rfl, Nat.le_trans hb hb', r⟩

set_option maxHeartbeats 2000000 in
theorem known_any (w : World) : Calls Try.prog 8 #[] w fun e w' => e = .returned (.bool true) ∧ Below w.heap.size w w' := by
  go_enter Try.func8, Try.ntmps8
  go_wp2_with fail
  refine (newC 3 (by decide) w).mono ?_
  rintro e w1 ⟨F, pa, pm, rfl, h1⟩
  have H1 := hid h1
  clear h1
  go_wp2_with fail
  refine (meterC H1.out.1).mono ?_
  rintro e w2 ⟨rfl, rfl⟩
  go_wp2
  go_loopw [2, 3, 4] (fun iv _ _ wr => ∃ (i : Nat) (G : Nat → Prop), iv = .int .i64 i ∧ i ≤ 3 ∧ Hr w wr G pa pm 3 i id id (7 * i)) (fun i _ _ _ => 3 - (intOf i).toNat)
  case atStart => exact ⟨0, F, rfl, by decide, H1.out⟩
  case round =>
    clear H1
    obtain ⟨i, G, rfl, hi, hh⟩ := hrel
    have HH := hid hh
    clear hh
    by_cases hlt : i < 3
    · have hlt' : (i : Int) < 3 := by omega
      go_wp2_with fail
      refine (takeC HH.out (by omega) hlt).mono ?_
      rintro e w3 ⟨rfl, h3, k3⟩
      have H3 := hid h3
      generalize Grow G wr w3 = G3 at H3
      clear h3 k3
      go_wp2_with fail
      refine (oneV HH.out.2 H3.out (by omega)).mono ?_
      rw [nxt_id]
      rintro e w4 ⟨rfl, h4, k4⟩
      have H4 := hid h4
      clear h4 k4 H3 HH
      go_wp2
      go_roundw
      case rel => exact ⟨i + 1, G3, by go_num, by omega, by have := H4.out; rw [show 7 * (i + 1) = 7 * i + 1 + 6 by omega]; exact this⟩
      case measure => simp [intOf]; omega
    · obtain rfl : i = 3 := by omega
      clear hlt hi
      go_wp2_with fail
      refine (putC HH.out (by decide) (c := 0) (d := 1) (by decide) (by decide) (by decide) rfl).mono ?_
      rintro e w3 ⟨rfl, h3, -⟩
      replace h3 : Hr w w3 G pa pm 3 3 k1 p1 33 := h3
      have H3 := hid h3
      clear h3 HH
      go_wp2_with fail
      refine (allC H3.out (by decide) (c := 0) (tl := [1]) (by decide) (by unfold Rnd Lnk Lnk Lnk; decide) (by decide)).mono ?_
      rintro e w4 ⟨v4, rfl, o4, h4, kk4⟩
      have H4 := hid h4
      have O4 := hid o4
      clear h4 o4 kk4 H3
      go_wp2_with fail
      have K5 : Hid (Kept (fun _ => False) w4 (w4.alloc (.cells #[.int .i64 0, .int .i64 1] 3))) := (Kept.refl _ _).alloc _
      refine (sameN v4 _ [0, 1] [0, 1] rfl (by decide) _ (by exact own_base (own_plain O4.out K5.out) (Nat.zero_le _)) (by exact own_base (World.ownsRow_lit (base := 0) (e := 3) (size := 1) w4 #[.int .i64 0, .int .i64 1] 2 (Nat.zero_le _) (by simp [maxLen]) rfl) (Nat.zero_le _))).mono ?_
      rintro e w5 ⟨rfl, d, rfl⟩
      have H5 := hid ((H4.out.plain K5.out).drewN d)
      clear H4 O4 K5
      go_wp2_with fail
      refine (aloneC H5.out (by decide) (c := 2) (by decide)).mono ?_
      rw [show decide (k1 2 = 2) = true by decide]
      rintro e w6 ⟨rfl, h6, -⟩
      have H6 := hid h6
      clear h6 H5
      go_wp2_with fail
      refine (aloneC H6.out (by decide) (c := 0) (by decide)).mono ?_
      rw [show decide (k1 0 = 0) = false by decide]
      rintro e w7 ⟨rfl, h7, -⟩
      have H7 := hid h7
      clear h7 H6
      go_wp2_with fail
      refine (outC H7.out (by decide) (c := 2) (by decide)).mono ?_
      rw [show (if k1 2 = 2 then -1 else (k1 2 : Int)) = -1 by decide]
      rintro e w8 ⟨rfl, h8, -⟩
      replace h8 : Hr w w8 G pa pm 3 3 k2 p2 _ := h8
      have H8 := hid h8
      clear h8 H7
      go_wp2_with fail
      refine (outC H8.out (by decide) (c := 0) (by decide)).mono ?_
      rw [show (if k2 0 = 0 then -1 else (k2 0 : Int)) = 1 by decide]
      rintro e w9 ⟨rfl, h9, -⟩
      replace h9 : Hr w w9 G pa pm 3 3 k3 p3 _ := h9
      have H9 := hid h9
      clear h9 H8
      go_wp2_with fail
      refine (aloneC H9.out (by decide) (c := 1) (by decide)).mono ?_
      rw [show decide (k3 1 = 1) = true by decide]
      rintro e w10 ⟨rfl, h10, -⟩
      have H10 := hid h10
      clear h10 H9
      go_wp2
      go_ret
      exact ⟨rfl, H10.out.1.bel⟩
end Go.Proofs.Yticpldlckdckdaa
