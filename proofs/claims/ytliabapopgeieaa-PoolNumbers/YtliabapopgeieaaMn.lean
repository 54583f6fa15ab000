/- Slices of a law's own beside a pool; slices that came in. -/
import Derived.Test.YtliabapopgeieaaWth
import Derived.Test.YtliabapopgeieaaHdT
namespace Go.Proofs.Ytliabapopgeieaa
open Go.ChangeShapes Go.WideShapes Go.ChangeAt Go.RowKit

/-- a slice that the call made, outside of F -/
structure Mine (w0 w : World) (F : Nat → Prop) (e : TypeId) (sz : Nat) (v : Value) (n : Nat) (xs : List Value) : Prop where
  own : w.ownsRow 0 e sz v n xs
  out : ∀ k, v.ownBlock = some k → ¬ F k ∧ w0.heap.size ≤ k

section
variable {w0 w w' : World} {F G : Nat → Prop} {e e2 : TypeId} {sz sz2 : Nat} {v v2 : Value} {n n2 : Nat} {xs xs2 : List Value}
theorem Mine.nil (w0 w : World) (F : Nat → Prop) (e : TypeId) (sz : Nat) : Mine w0 w F e sz (.slice none 0 0) 0 [] := ⟨World.ownsRow_nil w 0 e sz, fun k hk => by cases hk⟩
theorem Mine.call (h : Mine w0 w F e sz v n xs) (k : Kept F w w') : Mine w0 w' (Grow F w w') e sz v n xs :=
  ⟨own_kept h.own k fun i hi => (h.out i hi).1, fun i hi => ⟨fun q => q.elim (h.out i hi).1 fun q => by have := (h.own.lt i hi).2; omega, (h.out i hi).2⟩⟩
theorem Mine.plain (h : Mine w0 w F e sz v n xs) (k : Kept (fun _ => False) w w') : Mine w0 w' F e sz v n xs := ⟨own_plain h.own k, h.out⟩
theorem Mine.other (h : Mine w0 w F e sz v n xs) (k : Kept G w w') (hd : ∀ i, v.ownBlock = some i → ¬ G i) : Mine w0 w' F e sz v n xs := ⟨own_kept h.own k hd, h.out⟩
theorem kept_of_grown {row : Option Nat} (h : w.grownBy w' row) : Kept (fun k => row = some k) w w' := ⟨h.os, h.tape, h.output, h.size, fun k hk hn => h.block k hk fun e => hn e.symm⟩
theorem Mine.grown (h : Mine w0 w F e sz v n xs) (h2 : w.ownsRow 0 e2 sz2 v2 n2 xs2) (hg : w.grownBy w' v2.ownBlock) (he : e ≠ e2) : Mine w0 w' F e sz v n xs :=
  h.other (kept_of_grown hg) fun i hi q => by
    rcases own_ne h.own h2 he with z | z
    · rw [z] at hi; cases hi
    · exact z (hi.trans q.symm)
/-- something is appended -/
theorem Mine.pushed {g cap m : Nat} {news : List Value} (h : Mine w0 w F e sz v n xs) (_hg : w.grownBy w' v.ownBlock) (ho : w'.ownsRow 0 e sz (.slice (some ⟨g, 0, none⟩) (n + m) cap) (n + m) (xs ++ news)) (hat : v.ownBlock = some g ∨ g = w.heap.size) (hF : ∀ k, F k → k < w.heap.size) (hB : w0.heap.size ≤ w.heap.size) :
    Mine w0 w' F e sz (.slice (some ⟨g, 0, none⟩) (n + m) cap) (n + m) (xs ++ news) := by
  refine ⟨ho, fun k hk => ?_⟩
  cases hk
  rcases hat with q | q
  · exact h.out g q
  · subst q; exact ⟨fun q => Nat.lt_irrefl _ (hF _ q), hB⟩
theorem Mine.lt (h : Mine w0 w F e sz v n xs) : ∀ k, v.ownBlock = some k → k < w.heap.size := fun k hk => (h.own.lt k hk).2
end

theorem HoldT.grown {w0 w w' : World} {F : Nat → Prop} {pa : Nat} {s : St ByteArray} {e : TypeId} {sz n : Nat} {v : Value} {xs : List Value} (h : HoldT w0 w F pa s) (m : Mine w0 w F e sz v n xs) (hg : w.grownBy w' v.ownBlock) : HoldT w0 w' F pa s :=
  h.other (kept_of_grown hg) (fun k hk => (m.out k hk).2) fun k hk q => (m.out k q).1 hk
theorem HoldI.grown {w0 w w' : World} {F : Nat → Prop} {pa : Nat} {s : St Int} {e : TypeId} {sz n : Nat} {v : Value} {xs : List Value} (h : HoldI w0 w F pa s) (m : Mine w0 w F e sz v n xs) (hg : w.grownBy w' v.ownBlock) : HoldI w0 w' F pa s :=
  h.other (kept_of_grown hg) (fun k hk => (m.out k hk).2) fun k hk q => (m.out k q).1 hk

/-- two numbers' cells -/
def ref2 (p : Nat × Nat) : List Value := [.int .i64 p.1, .int .i64 p.2]
theorem ref2_len : ∀ p, (ref2 p).length = 2 := fun _ => rfl
theorem ref2_one : ∀ p, ∀ v ∈ ref2 p, v.oneCell' = true := fun p v h => by
  simp [ref2] at h
  rcases h with rfl | rfl <;> rfl
theorem info25 : (Try.prog.info? 25).map (fun i => (i.zero, i.size, i.bytes)) = some (some (.agg #[.int .i64 0, .int .i64 0]), 2, 16) := by kernel_rfl

/-- the cells of a slice that came in -/
def Came {α : Type} (w : World) (a : Option Addr) (c : Nat) (f : α → List Value) (l : List α) : Prop :=
  l = [] ∨ ∃ b off, a = some ⟨b, off, none⟩ ∧ b < w.heap.size ∧ ∀ i x, l[i]? = some x → ∀ j, j < c → w.cell? ⟨b, off + (i * c + j), none⟩ = (f x)[j]?
theorem Came.get {α : Type} {w w' : World} {a : Option Addr} {c : Nat} {f : α → List Value} {l : List α} (h : Came w a c f l) (k : Below w.heap.size w w') {i : Nat} {x : α} (hx : l[i]? = some x) :
    ∃ b off, a = some ⟨b, off, none⟩ ∧ b < w.heap.size ∧ ∀ j, j < c → w'.cell? ⟨b, off + (i * c + j), none⟩ = (f x)[j]? := by
  rcases h with rfl | ⟨b, off, e, hb, hc⟩
  · simp at hx
  · exact ⟨b, off, e, hb, fun j hj => (k.cell (p := ⟨b, _, none⟩) hb).trans (hc i x hx j hj)⟩
end Go.Proofs.Ytliabapopgeieaa
