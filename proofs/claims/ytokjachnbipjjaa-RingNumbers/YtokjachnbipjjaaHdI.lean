/- The ring of int64, as a call's own: what stays true from step to step. -/
import Derived.Test.YtokjachnbipjjaaPsI
import Derived.Test.YtokjachnbipjjaaPkI
import Derived.Test.YtokjachnbipjjaaAlI
namespace Go.Proofs.Ytokjachnbipjjaa
open Go.ChangeShapes Go.WideShapes Go.ChangeAt Go.RowKit

/-- since w0 nothing old has turned, and the ring lies in what is new -/
structure HoldI (w0 w : World) (F : Nat → Prop) (pa room : Nat) (l : List Int) : Prop where
  is : IsI w F pa room l
  new : ∀ k, F k → w0.heap.size ≤ k
  bel : Below w0.heap.size w0 w

section
variable {w0 w w' : World} {F G : Nat → Prop} {pa room : Nat} {l l' : List Int}
theorem HoldI.call (h : HoldI w0 w F pa room l) (hi : IsI w' (Grow F w w') pa room l') (hk : Kept F w w') : HoldI w0 w' (Grow F w w') pa room l' :=
  ⟨hi, fun k e => e.elim (h.new k) fun e => Nat.le_trans h.bel.size e.1, h.bel.trans (hk.below h.bel.size h.new)⟩
theorem HoldI.plain (h : HoldI w0 w F pa room l) (hk : Kept (fun _ => False) w w') : HoldI w0 w' F pa room l :=
  ⟨h.is.kept hk (fun _ _ e => e), h.new, h.bel.trans (hk.below h.bel.size fun _ e => e.elim)⟩
theorem HoldI.other (h : HoldI w0 w F pa room l) (hk : Kept G w w') (hG : ∀ k, G k → w0.heap.size ≤ k) (hd : ∀ k, F k → ¬ G k) : HoldI w0 w' F pa room l :=
  ⟨h.is.kept hk hd, h.new, h.bel.trans (hk.below h.bel.size hG)⟩
theorem HoldI.out (h : HoldI w0 w F pa room l) : ¬ F w.heap.size := fun e => Nat.lt_irrefl _ (h.is.lt _ e)

theorem newIH (n : Int) (w : World) : Calls Try.prog 8 #[.int .i64 n] w fun e w' => ∃ F pa, e = .returned (.pointer (some ⟨pa, 0, none⟩)) ∧ HoldI w w' F pa (room0 n) [] :=
  (newI n w).mono fun _ _ ⟨F, pa, h1, h2, h3, h4⟩ => ⟨F, pa, h1, h2, h3, h4⟩
theorem pushIH (v : Int) (h : HoldI w0 w F pa room l) : Calls Try.prog 24 #[.pointer (some ⟨pa, 0, none⟩), (.int .i64 v)] w fun e w' => e = .returned (.bool (decide (l.length < room))) ∧ HoldI w0 w' (Grow F w w') pa room (if l.length < room then l ++ [v] else l) ∧ Kept F w w' :=
  (pushI pa room l F v w h.is).mono fun _ _ ⟨h1, h2, h3⟩ => ⟨h1, h.call h2 h3, h3⟩
theorem popIH {x : Int} (h : HoldI w0 w F pa room (x :: l)) : Calls Try.prog 22 #[.pointer (some ⟨pa, 0, none⟩)] w fun e w' => e = .returned (.tuple #[(.int .i64 x), .bool true]) ∧ HoldI w0 w' (Grow F w w') pa room l ∧ Kept F w w' :=
  (popI pa room x l F w h.is).mono fun _ _ ⟨h1, h2, h3⟩ => ⟨h1, h.call h2 h3, h3⟩
end
end Go.Proofs.Ytokjachnbipjjaa
