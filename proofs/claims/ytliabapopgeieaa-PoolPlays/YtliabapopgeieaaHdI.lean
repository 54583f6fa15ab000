/- The pool of int64, as a call's own: what stays true from step to step. -/
import Derived.Test.YtliabapopgeieaaGvI
namespace Go.Proofs.Ytliabapopgeieaa
open Go.ChangeShapes Go.WideShapes Go.ChangeAt Go.RowKit

/-- since w0 nothing old has turned, and the pool lies in what is new -/
structure HoldI (w0 w : World) (F : Nat → Prop) (pa : Nat) (s : St Int) : Prop where
  is : IsI w F pa s
  new : ∀ k, F k → w0.heap.size ≤ k
  bel : Below w0.heap.size w0 w

theorem HoldI.call {w0 w w' : World} {F : Nat → Prop} {pa : Nat} {s s' : St Int} (h : HoldI w0 w F pa s) (hi : IsI w' (Grow F w w') pa s') (hk : Kept F w w') : HoldI w0 w' (Grow F w w') pa s' :=
  ⟨hi, fun k e => e.elim (h.new k) fun e => Nat.le_trans h.bel.size e.1, h.bel.trans (hk.below h.bel.size h.new)⟩
theorem HoldI.plain {w0 w w' : World} {F : Nat → Prop} {pa : Nat} {s : St Int} (h : HoldI w0 w F pa s) (hk : Kept (fun _ => False) w w') : HoldI w0 w' F pa s :=
  ⟨h.is.kept hk (fun _ _ e => e), h.new, h.bel.trans (hk.below h.bel.size fun _ e => e.elim)⟩
theorem HoldI.other {w0 w w' : World} {F G : Nat → Prop} {pa : Nat} {s : St Int} (h : HoldI w0 w F pa s) (hk : Kept G w w') (hG : ∀ k, G k → w0.heap.size ≤ k) (hd : ∀ k, F k → ¬ G k) : HoldI w0 w' F pa s :=
  ⟨h.is.kept hk hd, h.new, h.bel.trans (hk.below h.bel.size hG)⟩
theorem HoldI.out {w0 w : World} {F : Nat → Prop} {pa : Nat} {s : St Int} (h : HoldI w0 w F pa s) : ¬ F w.heap.size := fun e => Nat.lt_irrefl _ (h.is.lt _ e)

theorem takeIH {w0 w : World} {F : Nat → Prop} {pa : Nat} {s : St Int} (v : Int) (h : HoldI w0 w F pa s) (hm : s.pl.length ≤ 100000) (hb : s.back.length ≤ 100000) (hbk : ∀ b ∈ s.back, b < s.pl.length) (hl : ∀ x ∈ s.pl, x.2.1 ≤ 100000) :
    Calls Try.prog 28 #[.pointer (some ⟨pa, 0, none⟩), .int .i64 v] w fun e w' => e = .returned (.tuple #[.agg #[.int .i64 (tookS 0 s).1, .int .i64 (tookS 0 s).2], .bool (nextS 0 s).2.2]) ∧ HoldI w0 w' (Grow F w w') pa (takeS 0 v s) ∧ Kept F w w' :=
  (takeI pa s F v w h.is hm hb hbk hl).mono fun _ _ ⟨h1, h2, h3⟩ => ⟨h1, h.call h2 h3, h3⟩
theorem giveIH {w0 w : World} {F : Nat → Prop} {pa : Nat} {s : St Int} (a g : Int) (h : HoldI w0 w F pa s) (hb : s.back.length ≤ 1000000) :
    Calls Try.prog 22 #[.pointer (some ⟨pa, 0, none⟩), .agg #[.int .i64 a, .int .i64 g]] w fun e w' => e = .returned (.tuple #[.int .i64 (getS 0 s.pl a g), .int .i64 (lookS s.pl a g)]) ∧ HoldI w0 w' (Grow F w w') pa (giveS 0 s a g) ∧ Kept F w w' :=
  (giveI pa s F a g w h.is hb).mono fun _ _ ⟨h1, h2, h3⟩ => ⟨h1, h.call h2 h3, h3⟩
theorem lenIH {w0 w : World} {F : Nat → Prop} {pa : Nat} {s : St Int} (h : HoldI w0 w F pa s) (hl : s.back.length ≤ s.pl.length) (hm : s.pl.length ≤ 1000000) :
    Calls Try.prog 30 #[.pointer (some ⟨pa, 0, none⟩)] w fun e w' => e = .returned (.int .i64 ((s.pl.length - s.back.length : Nat) : Int)) ∧ ∃ n, w' = w.drewN n := by
  obtain ⟨uv, bv, hr, _⟩ := h.is
  exact lenI pa s uv bv w hr hl hm
theorem getIH {w0 w : World} {F : Nat → Prop} {pa : Nat} {s : St Int} (a g : Int) (h : HoldI w0 w F pa s) :
    Calls Try.prog 24 #[.pointer (some ⟨pa, 0, none⟩), .agg #[.int .i64 a, .int .i64 g]] w fun e w' => e = .returned (.tuple #[.int .i64 (getS 0 s.pl a g), .int .i64 (lookS s.pl a g)]) ∧ HoldI w0 w' F pa s ∧ Kept (fun _ => False) w w' :=
  (getI pa s F a g w h.is).mono fun _ _ ⟨h1, h2⟩ => ⟨h1, h.plain (Kept.of_below h2), Kept.of_below h2⟩
theorem newIH (n : Int) (w : World) : Calls Try.prog 8 #[.int .i64 n] w fun e w' => ∃ F pa, e = .returned (.pointer (some ⟨pa, 0, none⟩)) ∧ HoldI w w' F pa ⟨most0 n, [], []⟩ :=
  (newI n w).mono fun _ _ ⟨F, pa, h1, h2, h3, h4⟩ => ⟨F, pa, h1, h2, h3, h4⟩
end Go.Proofs.Ytliabapopgeieaa
