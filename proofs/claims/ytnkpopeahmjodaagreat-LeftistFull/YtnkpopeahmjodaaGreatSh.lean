/- The laws' shape. -/
import Derived.Test.YtnkpopeahmjodaaGreatWl
import Derived.Test.YtnkpopeahmjodaaGreatWk
namespace Go.Proofs.YtnkpopeahmjodaaGreat
open Go.ChangeShapes Go.WideShapes Go.ChangeAt Go.RowKit
open Tr

set_option maxHeartbeats 2000000 in
theorem shape0 {w0 : Fm} {w : World} {F : Nat → Prop} {pw pa pm : Nat} {v0 v1 : Value} {s : St} {t u : Tr} {L0 L1 : List (Nat × Int × Int)} {nx sp mo : Int} (h : Wx w0 w F pw pa pm v0 v1 s t.root u.root L0 L1 nx sp mo) (hi : Inv s t u L0 L1) (hl : L0.length ≤ 1000) (hs : s.steps ≤ 70000000) :
    Calls Tryz.prog 31 #[.pointer (some ⟨pw, 0, none⟩), .int .i64 0] w fun e w' => e = .returned (.bool true) ∧ ∃ k, k ≤ 12 * t.size ∧ Ex F w w' pa pm (tk s k) := by
  have hsz := hi.a.len
  have g := hi.a.gd
  have WKH := hid (walk0 (s := s) hi.ok hl t w 0 (-1) (0, 0, 0) true h (Wk.of hi.a) g.nd (fun c hc => cell_neg (j := 0) (root_live g.hp c hc) (by decide) (up_root.1 g.up c hc)) (Or.inl rfl) (by omega))
  have HW := hid h
  obtain ⟨va, vc, hv'⟩ := h.l0.form
  subst hv'
  obtain ⟨c0, c1, c2, c3, c4, c5, c6, c7, cf⟩ := h.cells
  have hlt := h.lt
  unfold hv at WKH
  have HSZ := hid hsz
  clear h hi g hsz c0 c5 c6 c7 cf
  generalize t.size = zt at *
  go_enter Tryz.func31, Tryz.ntmps31
  go_wp2_with fail
  refine WKH.out.mono ?_
  rintro e w1 ⟨rfl, k, hk, e1⟩
  have W1 := hid (HW.out.ex e1)
  have E1 := hid e1
  clear e1 WKH c1 c2 c3 c4 hlt HW
  obtain ⟨c0, c1, c2, c3, c4, c5, c6, c7, cf⟩ := W1.out.cells
  have hlt := W1.out.lt
  have hz := HSZ.out
  subst hz
  clear c0 c1 c2 c5 c6 c7 cf
  go_wp2
  go_ret
  exact ⟨rfl, k, by omega, E1.out⟩

set_option maxHeartbeats 2000000 in
theorem shape1 {w0 : Fm} {w : World} {F : Nat → Prop} {pw pa pm : Nat} {v0 v1 : Value} {s : St} {t u : Tr} {L0 L1 : List (Nat × Int × Int)} {nx sp mo : Int} (h : Wx w0 w F pw pa pm v0 v1 s t.root u.root L0 L1 nx sp mo) (hi : Inv s t u L0 L1) (hl : L1.length ≤ 1000) (hs : s.steps ≤ 70000000) :
    Calls Tryz.prog 31 #[.pointer (some ⟨pw, 0, none⟩), .int .i64 1] w fun e w' => e = .returned (.bool true) ∧ ∃ k, k ≤ 12 * u.size ∧ Ex F w w' pa pm (tk s k) := by
  have hsz := hi.b.len
  have g := hi.b.gd
  have WKH := hid (walk1 (s := s) hi.ok hl u w 0 (-1) (0, 0, 0) true h (Wk.of hi.b) g.nd (fun c hc => cell_neg (j := 0) (root_live g.hp c hc) (by decide) (up_root.1 g.up c hc)) (Or.inl rfl) (by omega))
  have HW := hid h
  obtain ⟨va, vc, hv'⟩ := h.l1.form
  subst hv'
  obtain ⟨c0, c1, c2, c3, c4, c5, c6, c7, cf⟩ := h.cells
  have hlt := h.lt
  unfold hv at WKH
  have HSZ := hid hsz
  clear h hi g hsz c0 c5 c6 c7 cf
  generalize u.size = zt at *
  go_enter Tryz.func31, Tryz.ntmps31
  go_wp2_with fail
  refine WKH.out.mono ?_
  rintro e w1 ⟨rfl, k, hk, e1⟩
  have W1 := hid (HW.out.ex e1)
  have E1 := hid e1
  clear e1 WKH c1 c2 c3 c4 hlt HW
  obtain ⟨c0, c1, c2, c3, c4, c5, c6, c7, cf⟩ := W1.out.cells
  have hlt := W1.out.lt
  have hz := HSZ.out
  subst hz
  clear c0 c1 c2 c5 c6 c7 cf
  go_wp2
  go_ret
  exact ⟨rfl, k, by omega, E1.out⟩

end Go.Proofs.YtnkpopeahmjodaaGreat
