/- The walk of known: some of the chapter's runs. -/
import Derived.Test.YtonflgkfbhndbaaIx
namespace Go.Proofs.Ytonflgkfbhndbaa
open Go.ChangeShapes Go.WideShapes Go.ChangeAt Go.RowKit

def kf0 : Nat → Nat → Int := fun _ _ => 0
def kf1 : Nat → Nat → Int := put (put (put0 kf0 0) 0 7 5) 0 8 0
def kf2 : Nat → Nat → Int := put (put (put0 kf1 1) 1 7 5) 1 8 1

set_option maxHeartbeats 2000000 in
theorem known_any (w : World) : Calls Try.prog 6 #[] w fun e w' => e = .returned (.bool true) ∧ Below w.heap.size w w' := by
  go_enter Try.func6, Try.ntmps6
  go_wp2_with fail
  refine (startI 2 (by decide) kf0 w).mono ?_
  rintro e w1 ⟨F, pa, pm, rfl, h1⟩
  have H1 := hid h1
  clear h1
  go_wp2_with fail
  refine (newI 5 0 H1.out (by decide) (by decide)).mono ?_
  rintro e w2 ⟨rfl, h2, -⟩
  replace h2 : HoldA w w2 (Grow F w1 w2) pa pm (mk 2 1 kf1 3) := h2
  generalize Grow F w1 w2 = F2 at h2
  have H2 := hid h2
  clear h2 H1
  go_wp2_with fail
  refine (newI 5 1 H2.out (by decide) (by decide)).mono ?_
  rintro e w3 ⟨rfl, h3, -⟩
  replace h3 : HoldA w w3 (Grow F2 w2 w3) pa pm (mk 2 2 kf2 6) := h3
  generalize Grow F2 w2 w3 = F3 at h3
  have H3 := hid h3
  clear h3 H2
  go_wp2_with fail
  refine (newI_no 1 2 H3.out (by decide)).mono ?_
  rintro e w4 ⟨rfl, h4, -⟩
  generalize Grow F3 w3 w4 = F4 at h4
  have H4 := hid h4
  clear h4 H3
  have hq := fun w => eql24 (5, 0) (5, 0) w
  rw [show decide (((5 : Int), (0 : Int)) = (5, 0)) = true by decide] at hq
  go_wp2_with fail
  refine (entryI H4.out (by decide) (c := 0) (by decide)).mono ?_
  rw [show kf2 0 7 = 5 by decide, show kf2 0 8 = 0 by decide]
  rintro e w5 ⟨rfl, h5, -⟩
  have H5 := hid h5
  clear h5 H4
  go_wp2_with fail
  refine (beforeI H5.out (by decide) (c := 0) (d := 1) (by decide) (by decide)).mono ?_
  rw [show befI kf2 0 1 = true by decide]
  rintro e w6 ⟨rfl, h6, -⟩
  have H6 := hid h6
  clear h6 H5
  go_wp2_with fail
  refine (beforeI H6.out (by decide) (c := 0) (d := 0) (by decide) (by decide)).mono ?_
  rw [show befI kf2 0 0 = false by decide]
  rintro e w7 ⟨rfl, h7, -⟩
  have H7 := hid h7
  clear h7 H6
  go_wp2_with fail
  refine (lowerI 6 H7.out (by decide) (c := 0) (by decide)).mono ?_
  rw [show (if (6 : Int) ≤ kf2 0 7 then put kf2 0 7 6 else kf2) = kf2 from if_neg (by decide), show decide ((6 : Int) ≤ kf2 0 7) = false by decide]
  rintro e w8 ⟨rfl, ⟨t, ht, h8⟩, -⟩
  have H8 := hid h8
  clear h8 H7
  go_wp2_with fail
  refine (nodeI_no H8.out (by omega) (c := 1) (by decide) (by decide)).mono ?_
  rintro e w9 ⟨rfl, h9, -⟩
  have H9 := hid h9
  clear h9 H8
  go_wp2
  go_ret
  exact ⟨rfl, H9.out.bel⟩
end Go.Proofs.Ytonflgkfbhndbaa
