/- Both arenas side by side, in memory of their own. -/
import Derived.Test.YtokmefgdbklepaaRt
namespace Go.Proofs.Ytokmefgdbklepaa
open Go.ChangeShapes Go.WideShapes Go.ChangeAt Go.RowKit

structure Two (w0 w : World) (F G : Nat → Prop) (pa pm pr : Nat) (s t : St) : Prop where
  ha : IsA w F pa pm s
  hr : IsR w G pr t
  apart : ∀ k, F k → ¬ G k
  newa : ∀ k, F k → w0.heap.size ≤ k
  newr : ∀ k, G k → w0.heap.size ≤ k
  bel : Below w0.heap.size w0 w

section
variable {w0 w w' : World} {F G : Nat → Prop} {pa pm pr : Nat} {s t s' t' : St}
theorem Two.acall (h : Two w0 w F G pa pm pr s t) (hi : IsA w' (Grow F w w') pa pm s') (hk : Kept F w w') : Two w0 w' (Grow F w w') G pa pm pr s' t :=
  ⟨hi, h.hr.kept hk fun k hg hf => h.apart k hf hg, fun k e hg => e.elim (fun e => h.apart k e hg) (fun e => by have := h.hr.lt k hg; omega), fun k e => e.elim (h.newa k) fun e => Nat.le_trans h.bel.size e.1, h.newr, h.bel.trans (hk.below h.bel.size h.newa)⟩
theorem Two.astay (h : Two w0 w F G pa pm pr s t) (hi : IsA w' F pa pm s') (hk : Kept F w w') : Two w0 w' F G pa pm pr s' t :=
  ⟨hi, h.hr.kept hk fun k hg hf => h.apart k hf hg, h.apart, h.newa, h.newr, h.bel.trans (hk.below h.bel.size h.newa)⟩
theorem Two.rcall (h : Two w0 w F G pa pm pr s t) (hi : IsR w' (Grow G w w') pr t') (hk : Kept G w w') : Two w0 w' F (Grow G w w') pa pm pr s t' :=
  ⟨h.ha.kept hk h.apart, hi, fun k hf e => e.elim (h.apart k hf) (fun e => by have := h.ha.lt k hf; omega), h.newa, fun k e => e.elim (h.newr k) fun e => Nat.le_trans h.bel.size e.1, h.bel.trans (hk.below h.bel.size h.newr)⟩
theorem Two.rstay (h : Two w0 w F G pa pm pr s t) (hi : IsR w' G pr t') (hk : Kept G w w') : Two w0 w' F G pa pm pr s t' :=
  ⟨h.ha.kept hk h.apart, hi, h.apart, h.newa, h.newr, h.bel.trans (hk.below h.bel.size h.newr)⟩
theorem Two.drewN (h : Two w0 w F G pa pm pr s t) (n : Nat) : Two w0 (w.drewN n) F G pa pm pr s t :=
  ⟨h.ha.drewN n, h.hr.drewN n, h.apart, h.newa, h.newr, below_drewN h.bel n⟩
end

theorem liveQA (pa pm : Nat) (s : St) (F : Nat → Prop) (c : Int) (w : World) (h : IsA w F pa pm s) :
    Calls Try.prog 17 #[.pointer (some ⟨pa, 0, none⟩), .int .i64 c] w fun e w' => e = .returned (.bool (liveS s c)) ∧ ∃ n, w' = w.drewN n := (liveA pa pm s F c w h).mono fun _ _ ⟨h1, h2⟩ => ⟨h1, 0, h2⟩
theorem liveQR (pr : Nat) (s : St) (F : Nat → Prop) (c : Int) (w : World) (h : IsR w F pr s) :
    Calls Try.prog 29 #[.pointer (some ⟨pr, 0, none⟩), .int .i64 c] w fun e w' => e = .returned (.bool (liveS s c)) ∧ ∃ n, w' = w.drewN n := (liveR pr s F c w h).mono fun _ _ ⟨h1, h2⟩ => ⟨h1, 0, h2⟩
theorem lenQR (pr : Nat) (s : St) (F : Nat → Prop) (w : World) (h : IsR w F pr s) :
    Calls Try.prog 28 #[.pointer (some ⟨pr, 0, none⟩)] w fun e w' => e = .returned (.int .i64 (cnt s.pl)) ∧ ∃ n, w' = w.drewN n := (lenR pr s F w h).mono fun _ _ ⟨h1, h2⟩ => ⟨h1, 0, h2⟩
theorem meterQ (pa pm : Nat) (s : St) (F : Nat → Prop) (w : World) (h : IsA w F pa pm s) :
    Calls Try.prog 19 #[.pointer (some ⟨pa, 0, none⟩)] w fun e w' => e = .returned (.pointer (some ⟨pm, 0, none⟩)) ∧ ∃ n, w' = w.drewN n := (meterA pa pm s F w h).mono fun _ _ ⟨h1, h2⟩ => ⟨h1, 0, h2⟩
theorem stepsQ (pa pm : Nat) (s : St) (F : Nat → Prop) (w : World) (h : IsA w F pa pm s) :
    Calls Try.prog 20 #[.pointer (some ⟨pm, 0, none⟩)] w fun e w' => e = .returned (.int .i64 s.steps) ∧ ∃ n, w' = w.drewN n := (stepsA pa pm s F w h).mono fun _ _ ⟨h1, h2⟩ => ⟨h1, 0, h2⟩
theorem cellsQ (pa pm : Nat) (s : St) (F : Nat → Prop) (w : World) (h : IsA w F pa pm s) :
    Calls Try.prog 9 #[.pointer (some ⟨pa, 0, none⟩)] w fun e w' => e = .returned (.int .i64 s.most) ∧ ∃ n, w' = w.drewN n := (cellsA pa pm s F w h).mono fun _ _ ⟨h1, h2⟩ => ⟨h1, 0, h2⟩
end Go.Proofs.Ytokmefgdbklepaa
