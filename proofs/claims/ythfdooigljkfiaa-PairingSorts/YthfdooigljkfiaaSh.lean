/- The laws' shape, heap 0. -/
import Derived.Test.YthfdooigljkfiaaXu
import Derived.Test.YthfdooigljkfiaaGh
import Derived.Test.YthfdooigljkfiaaEq
namespace Go.Proofs.Ythfdooigljkfiaa
open Go.ChangeShapes Go.WideShapes Go.ChangeAt Go.RowKit
open Tr

set_option maxHeartbeats 4000000 in
set_option maxRecDepth 100000 in
theorem shape0 {w0 : Fm} {w : World} {F : Nat → Prop} {pw pa pm : Nat} {v0 v1 : Value} {s : St} {t u : Tr} {L0 L1 : List (Nat × Int × Int)} {nx sp mo : Int} (h : Wx w0 w F pw pa pm v0 v1 s (headr t) (headr u) L0 L1 nx sp mo) (hi : Inv s t u L0 L1) (hl : L0.length ≤ 1000) (hs : s.steps ≤ 70000000) :
    Calls Try.prog 37 #[.pointer (some ⟨pw, 0, none⟩), .int .i64 0] w fun e w' => e = .returned (.bool true) ∧ ∃ k, k ≤ 10 * L0.length + 4 ∧ Ex F w w' pa pm (tk s k) := by
  have HA := hi.a
  obtain ⟨va, vc, hv'⟩ := h.l0.form
  subst hv'
  have HW := hid h
  obtain ⟨c0, c1, c2, c3, c4, c5, c6, c7, cf⟩ := h.cells
  have hlt := h.lt
  have hout := hid h.out
  cases t with
  | lf =>
    have hL : L0 = [] := HA.none.1 rfl
    replace c1 : w.cell? ⟨pw, 1, none⟩ = some (.int .i64 (-1)) := c1
    rw [hL] at c3
    replace c3 : w.cell? ⟨pw, 3, none⟩ = some (.slice va 0 vc) := c3
    clear h hi HA hL
    go_enter Try.func37, Try.ntmps37
    go_wp2
    go_ret
    exact ⟨rfl, 0, by omega, Ex.start HW.out.is⟩
  | nd n i k r =>
    have htop : Top (nd n i k r) := HA.hp.top.resolve_left (by intro e; cases e)
    cases htop
    have hlen := HA.len
    simp only [size, Nat.add_zero] at hlen
    have vp := HA.hp.vp
    have ho : Hu (befF (hasS s)) i k := HA.hp.ho
    have g2 : cellS s (n : Int) 2 = -1 := cell_neg (j := 2) vp.1.1 (by decide) vp.1.2.2.2.2.1
    have g3 : cellS s (n : Int) 3 = -1 := cell_neg (j := 3) vp.1.1 (by decide) vp.1.2.2.2.2.2.1
    have hit : ∀ j, j = i ∨ j ∈ k.items → ∃ a x, Held s L0 j a x := fun j hj => held_of HA j (by simp only [its, items, List.mem_cons, List.mem_append]; rcases hj with q | q; exact Or.inl q; exact Or.inr (Or.inl q))
    have OK := hid hi.ok
    have TR := hid (fun (w1 : World) (k0 : Nat) (x1 : Ex F w w1 pa pm (tk s k0)) (hk : k0 ≤ 2) => show Calls Try.prog 54 #[.pointer (some ⟨pw, 0, none⟩), .int .i64 0, .int .i64 (n : Int), .int .i64 (-1), hv (0, 0, 0), .bool true] w1 fun e w' => e = .returned (.int .i64 ((k.size + 1 : Nat) : Int)) ∧ ∃ k', k' + 2 ≤ k0 + 8 * (k.size + 1) ∧ Ex F w w' pa pm (tk s k') from by
      refine (tree0 (w0 := w0) (F := F) (pw := pw) (pa := pa) (pm := pm) OK.out hl (k.size + 1) n i k lf w1 k0 (-1) (-1) (0, 0, 0) true (Nat.lt_succ_self _) vp ho hit (by omega) (Lkd.none s) (HW.out.ex x1) (Or.inl rfl) (by omega)).mono ?_
      rintro e w2 ⟨h1, k', h2, h3⟩
      exact ⟨h1, k', h2, x1.stay h3.is h3.kept⟩)
    rw [show k.size + 1 = L0.length from by omega] at TR
    have C2 := hid (fun (w1 : World) (k0 : Nat) (x1 : Ex F w w1 pa pm (tk s k0)) (hk : k0 ≤ 2) => show Calls Try.prog 28 #[.pointer (some ⟨pa, 0, none⟩), .int .i64 (n : Int), .int .i64 2] w1 fun e w' => e = .returned (.int .i64 (-1)) ∧ Ex F w w' pa pm (tk s (k0 + 1)) from by
      refine (cellT (n : Int) 2 (Ex.start x1.is) (by show s.steps + k0 ≤ _; omega)).mono ?_
      rintro e w2 ⟨h1, h3⟩
      exact ⟨by rw [h1, show cellS (tk s k0) (n : Int) 2 = -1 from g2], by rw [← tk_tk]; exact x1.stay h3.is h3.kept⟩)
    have C3 := hid (fun (w1 : World) (k0 : Nat) (x1 : Ex F w w1 pa pm (tk s k0)) (hk : k0 ≤ 2) => show Calls Try.prog 28 #[.pointer (some ⟨pa, 0, none⟩), .int .i64 (n : Int), .int .i64 3] w1 fun e w' => e = .returned (.int .i64 (-1)) ∧ Ex F w w' pa pm (tk s (k0 + 1)) from by
      refine (cellT (n : Int) 3 (Ex.start x1.is) (by show s.steps + k0 ≤ _; omega)).mono ?_
      rintro e w2 ⟨h1, h3⟩
      exact ⟨by rw [h1, show cellS (tk s k0) (n : Int) 3 = -1 from g3], by rw [← tk_tk]; exact x1.stay h3.is h3.kept⟩)
    obtain ⟨n0, hn0⟩ : ∃ z, z = L0.length := ⟨_, rfl⟩
    have HN0 := hid hn0
    rw [← hn0] at c3 TR hl ⊢
    replace c1 : w.cell? ⟨pw, 1, none⟩ = some (.int .i64 (n : Int)) := c1
    have hn1 : ((n : Int) == -1) = false := by simp
    have X0 := hid (show Ex F w w pa pm (tk s 0) from Ex.start HW.out.is)
    unfold hv at TR
    have HC0 := hid c0
    have HC3 := hid c3
    clear h hi HA hlen vp ho g2 g3 hit hn0
    go_enter Try.func37, Try.ntmps37
    go_wp2_with fail
    go_region_held3 (fun w' => w'.cell? ⟨pw, 0, none⟩ = some (.pointer (some ⟨pa, 0, none⟩)) ∧ w'.cell? ⟨pw, 3, none⟩ = some (.slice va n0 vc)) (first | exact ⟨c0, c3⟩)
      (first
        | (go_at_call 28; refine (C2.out _ 0 (X0.out.plain (by first | exact Kept.refl _ _ | exact (Kept.refl _ _).drew | exact (Kept.refl _ _).drewN _)) (by decide)).mono ?_; rintro e w2 ⟨rfl, x2⟩; replace c0 := (x2.kept.cell (p := ⟨pw, 0, none⟩) hlt hout.out).trans HC0.out; replace c3 := (x2.kept.cell (p := ⟨pw, 3, none⟩) hlt hout.out).trans HC3.out; have X2 := hid x2; clear x2 C2)
        | (go_at_call 28; refine (C3.out _ 1 (X2.out.plain (by first | exact Kept.refl _ _ | exact (Kept.refl _ _).drew | exact (Kept.refl _ _).drewN _)) (by decide)).mono ?_; rintro e w3 ⟨rfl, x3⟩; replace c0 := (x3.kept.cell (p := ⟨pw, 0, none⟩) hlt hout.out).trans HC0.out; replace c3 := (x3.kept.cell (p := ⟨pw, 3, none⟩) hlt hout.out).trans HC3.out; have X3 := hid x3; clear x3 C3)
        | (go_at_call 54; refine (TR.out _ 2 (X3.out.plain (by first | exact Kept.refl _ _ | exact (Kept.refl _ _).drew | exact (Kept.refl _ _).drewN _)) (by decide)).mono ?_; rintro e w4 ⟨rfl, k4, hk4, x4⟩; replace c0 := (x4.kept.cell (p := ⟨pw, 0, none⟩) hlt hout.out).trans HC0.out; replace c3 := (x4.kept.cell (p := ⟨pw, 3, none⟩) hlt hout.out).trans HC3.out; have X4 := hid x4; have HK4 := hid hk4; clear x4 hk4))
    all_goals
      go_wp2
      go_ret
      exact ⟨rfl, k4, by have := HK4.out; omega, X4.out.plain (by first | exact Kept.refl _ _ | exact (Kept.refl _ _).drew | exact (Kept.refl _ _).drewN _)⟩
end Go.Proofs.Ythfdooigljkfiaa
