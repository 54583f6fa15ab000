/- The pool of texts, as a call's own: what stays true from step to step. -/
import Derived.Test.YtliabapopgeieaaGvT
namespace Go.Proofs.Ytliabapopgeieaa
open Go.ChangeShapes Go.WideShapes Go.ChangeAt Go.RowKit

/-- since w0 nothing old has turned, and the pool lies in what is new -/
structure HoldT (w0 w : World) (F : Nat → Prop) (pa : Nat) (s : St ByteArray) : Prop where
  is : IsT w F pa s
  new : ∀ k, F k → w0.heap.size ≤ k
  bel : Below w0.heap.size w0 w

theorem HoldT.call {w0 w w' : World} {F : Nat → Prop} {pa : Nat} {s s' : St ByteArray} (h : HoldT w0 w F pa s) (hi : IsT w' (Grow F w w') pa s') (hk : Kept F w w') : HoldT w0 w' (Grow F w w') pa s' :=
  ⟨hi, fun k e => e.elim (h.new k) fun e => Nat.le_trans h.bel.size e.1, h.bel.trans (hk.below h.bel.size h.new)⟩
theorem HoldT.plain {w0 w w' : World} {F : Nat → Prop} {pa : Nat} {s : St ByteArray} (h : HoldT w0 w F pa s) (hk : Kept (fun _ => False) w w') : HoldT w0 w' F pa s :=
  ⟨h.is.kept hk (fun _ _ e => e), h.new, h.bel.trans (hk.below h.bel.size fun _ e => e.elim)⟩
theorem HoldT.other {w0 w w' : World} {F G : Nat → Prop} {pa : Nat} {s : St ByteArray} (h : HoldT w0 w F pa s) (hk : Kept G w w') (hG : ∀ k, G k → w0.heap.size ≤ k) (hd : ∀ k, F k → ¬ G k) : HoldT w0 w' F pa s :=
  ⟨h.is.kept hk hd, h.new, h.bel.trans (hk.below h.bel.size hG)⟩
theorem HoldT.out {w0 w : World} {F : Nat → Prop} {pa : Nat} {s : St ByteArray} (h : HoldT w0 w F pa s) : ¬ F w.heap.size := fun e => Nat.lt_irrefl _ (h.is.lt _ e)

theorem takeTH {w0 w : World} {F : Nat → Prop} {pa : Nat} {s : St ByteArray} (v : ByteArray) (h : HoldT w0 w F pa s) (hm : s.pl.length ≤ 100000) (hb : s.back.length ≤ 100000) (hbk : ∀ b ∈ s.back, b < s.pl.length) (hl : ∀ x ∈ s.pl, x.2.1 ≤ 100000) :
    Calls Try.prog 18 #[.pointer (some ⟨pa, 0, none⟩), .string v] w fun e w' => e = .returned (.tuple #[.agg #[.int .i64 (tookS (⟨#[]⟩ : ByteArray) s).1, .int .i64 (tookS (⟨#[]⟩ : ByteArray) s).2], .bool (nextS (⟨#[]⟩ : ByteArray) s).2.2]) ∧ HoldT w0 w' (Grow F w w') pa (takeS (⟨#[]⟩ : ByteArray) v s) ∧ Kept F w w' :=
  (takeT pa s F v w h.is hm hb hbk hl).mono fun _ _ ⟨h1, h2, h3⟩ => ⟨h1, h.call h2 h3, h3⟩
theorem giveTH {w0 w : World} {F : Nat → Prop} {pa : Nat} {s : St ByteArray} (a g : Int) (h : HoldT w0 w F pa s) (hb : s.back.length ≤ 1000000) :
    Calls Try.prog 19 #[.pointer (some ⟨pa, 0, none⟩), .agg #[.int .i64 a, .int .i64 g]] w fun e w' => e = .returned (.tuple #[.string (getS (⟨#[]⟩ : ByteArray) s.pl a g), .int .i64 (lookS s.pl a g)]) ∧ HoldT w0 w' (Grow F w w') pa (giveS (⟨#[]⟩ : ByteArray) s a g) ∧ Kept F w w' :=
  (giveT pa s F a g w h.is hb).mono fun _ _ ⟨h1, h2, h3⟩ => ⟨h1, h.call h2 h3, h3⟩
theorem lenTH {w0 w : World} {F : Nat → Prop} {pa : Nat} {s : St ByteArray} (h : HoldT w0 w F pa s) (hl : s.back.length ≤ s.pl.length) (hm : s.pl.length ≤ 1000000) :
    Calls Try.prog 20 #[.pointer (some ⟨pa, 0, none⟩)] w fun e w' => e = .returned (.int .i64 ((s.pl.length - s.back.length : Nat) : Int)) ∧ ∃ n, w' = w.drewN n := by
  obtain ⟨uv, bv, hr, _⟩ := h.is
  exact lenT pa s uv bv w hr hl hm
theorem newTH (n : Int) (w : World) : Calls Try.prog 17 #[.int .i64 n] w fun e w' => ∃ F pa, e = .returned (.pointer (some ⟨pa, 0, none⟩)) ∧ HoldT w w' F pa ⟨most0 n, [], []⟩ :=
  (newT n w).mono fun _ _ ⟨F, pa, h1, h2, h3, h4⟩ => ⟨F, pa, h1, h2, h3, h4⟩
end Go.Proofs.Ytliabapopgeieaa
