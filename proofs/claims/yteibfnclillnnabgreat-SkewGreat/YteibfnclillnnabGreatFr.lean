/- The laws' fresh: a world with nothing in it. -/
import Derived.Test.YteibfnclillnnabGreatGj
namespace Go.Proofs.YteibfnclillnnabGreat
open Go.ChangeShapes Go.WideShapes Go.ChangeAt Go.RowKit
open Tr

set_option maxHeartbeats 2000000 in
theorem freshW (n : Int) (w : World) : Calls Tryz.prog 5 #[.int .i64 n] w fun e w' => ∃ pw, e = .returned (.pointer (some ⟨pw, 0, none⟩)) ∧ Sit (Fm.of w) w' pw (most0 n) 0 [] [] 0 := by
  go_enter Tryz.func5, Tryz.ntmps5
  go_wp2_with fail
  refine (newA n w).mono ?_
  rintro e w1 ⟨F, pa, pm, rfl, h1, h2, h3⟩
  have H1 := hid h1
  have H2 := hid h2
  have H3 := hid h3
  have h4 := h1.lt
  have H4 := hid h4
  obtain ⟨pw, hpw⟩ : ∃ pw, pw = w1.heap.size := ⟨_, rfl⟩
  have hpw' : w1.heap.size = pw := hpw.symm
  have HPW := hid hpw
  clear h1 h2 h3 h4 hpw
  have WX : Hid (Wx (Fm.of w) (w1.alloc (.cells #[.pointer (some ⟨pa, 0, none⟩), .int .i64 (-1), .int .i64 (-1), .slice none 0 0, .slice none 0 0, .int .i64 0, .int .i64 0, .int .i64 0] 32)) F pw pa pm (.slice none 0 0) (.slice none 0 0) (st0 n) (headr []) (headr []) [] [] 0 0 0) := by
    have k := (Kept.refl (fun _ => False) w1).alloc (.cells #[.pointer (some ⟨pa, 0, none⟩), .int .i64 (-1), .int .i64 (-1), .slice none 0 0, .slice none 0 0, .int .i64 0, .int .i64 0, .int .i64 0] 32)
    refine ⟨?_, H1.out.kept k (fun _ _ e => e), fun q => by have := H4.out pw q; have := HPW.out; omega, Lz.nil _ _, Lz.nil _ _, fun k hk => Or.inr (H2.out k hk), Or.inr (by rw [HPW.out]; exact H3.out.size), (Kept.of_below H3.out).alloc _⟩
    rw [HPW.out]
    exact heap_alloc_new w1 _
  have ME := hid (meterA pa pm _ F _ WX.out.is)
  obtain ⟨c0, _, _, _, _, _, _, _, _⟩ := WX.out.cells
  have hlt := WX.out.lt
  go_wp2_with fail
  refine ME.out.mono ?_
  rintro e w3 ⟨rfl, rfl⟩
  go_wp2
  go_ret
  exact ⟨pw, rfl, F, pa, pm, _, _, st0 n, [], [], 0, 0, WX.out, Inv.start n, Nat.le_refl _, rfl⟩
end Go.Proofs.YteibfnclillnnabGreat
