/- Both pools, and what was told, side by side. -/
import Derived.Test.YtliabapopgeieaaRel
import Derived.Test.YtliabapopgeieaaRt
import Derived.Test.YtliabapopgeieaaAli
import Derived.Test.YtliabapopgeieaaLift
namespace Go.Proofs.Ytliabapopgeieaa
open Go.ChangeShapes Go.WideShapes Go.ChangeAt Go.RowKit

structure PlayAt (w0 w : World) (pa ma : Nat) (F G : Nat → Prop) (s t : St Int) (tv : Value) (told : List (Nat × Nat)) : Prop where
  hp : HoldI w0 w F pa s
  hm : IsR w G ma t
  gn : ∀ k, G k → w0.heap.size ≤ k
  dj : ∀ k, F k → ¬ G k
  tm : Mine w0 w (fun k => F k ∨ G k) 25 2 tv told.length (row ref2 told)

section
variable {w0 w w' : World} {pa ma : Nat} {F G : Nat → Prop} {s t s' t' : St Int} {tv : Value} {told : List (Nat × Nat)}
theorem mine_wide {H : Nat → Prop} {e : TypeId} {sz n : Nat} {v : Value} {xs : List Value} (h : Mine w0 w F e sz v n xs) (hd : ∀ k, v.ownBlock = some k → ¬ H k) : Mine w0 w H e sz v n xs := ⟨h.own, fun k hk => ⟨hd k hk, (h.out k hk).2⟩⟩
/-- a call of the pool -/
theorem PlayAt.pcall (h : PlayAt w0 w pa ma F G s t tv told) (hi : IsI w' (Grow F w w') pa s') (hk : Kept F w w') : PlayAt w0 w' pa ma (Grow F w w') G s' t tv told := by
  have hG := h.hm.lt
  refine ⟨h.hp.call hi hk, h.hm.kept hk (fun k q e => h.dj k e q), h.gn, fun k q e => ?_, ?_⟩
  · rcases q with q | q
    · exact h.dj k q e
    · have := hG k e; omega
  · refine ⟨own_kept h.tm.own hk fun k q e => (h.tm.out k q).1 (Or.inl e), fun k q => ⟨fun e => ?_, (h.tm.out k q).2⟩⟩
    rcases e with e | e
    · rcases e with e | e
      · exact (h.tm.out k q).1 (Or.inl e)
      · have := (h.tm.own.lt k q).2; omega
    · exact (h.tm.out k q).1 (Or.inr e)
/-- a call of the document's pool -/
theorem PlayAt.mcall (h : PlayAt w0 w pa ma F G s t tv told) (hi : IsR w' (Grow G w w') ma t') (hk : Kept G w w') : PlayAt w0 w' pa ma F (Grow G w w') s t' tv told := by
  have hF := h.hp.is.lt
  have hs := h.hp.bel.size
  refine ⟨h.hp.other hk h.gn (fun k q e => h.dj k q e), hi, fun k q => q.elim (h.gn k) fun q => Nat.le_trans hs q.1, fun k q e => ?_, ?_⟩
  · rcases e with e | e
    · exact h.dj k q e
    · have := hF k q; omega
  · refine ⟨own_kept h.tm.own hk fun k q e => (h.tm.out k q).1 (Or.inr e), fun k q => ⟨fun e => ?_, (h.tm.out k q).2⟩⟩
    rcases e with e | e
    · exact (h.tm.out k q).1 (Or.inl e)
    · rcases e with e | e
      · exact (h.tm.out k q).1 (Or.inr e)
      · have := (h.tm.own.lt k q).2; omega
theorem PlayAt.plain (h : PlayAt w0 w pa ma F G s t tv told) (hk : Kept (fun _ => False) w w') : PlayAt w0 w' pa ma F G s t tv told :=
  ⟨h.hp.plain hk, h.hm.kept hk (fun _ _ e => e), h.gn, h.dj, h.tm.plain hk⟩
/-- one Ref more is told -/
theorem PlayAt.tell {g cap : Nat} {p : Nat × Nat} (h : PlayAt w0 w pa ma F G s t tv told) (hg : w.grownBy w' tv.ownBlock) (ho : w'.ownsRow 0 25 2 (.slice (some ⟨g, 0, none⟩) (told.length + 1) cap) (told.length + 1) (row ref2 told ++ ref2 p)) (hat : tv.ownBlock = some g ∨ g = w.heap.size) : PlayAt w0 w' pa ma F G s t (.slice (some ⟨g, 0, none⟩) (told.length + 1) cap) (told ++ [p]) := by
  have hk := kept_of_grown hg
  refine ⟨h.hp.other hk (fun k q => (h.tm.out k q).2) (fun k q e => (h.tm.out k e).1 (Or.inl q)), h.hm.kept hk (fun k q e => (h.tm.out k e).1 (Or.inr q)), h.gn, h.dj, ?_⟩
  have := h.tm.pushed hg ho hat (fun k q => q.elim (h.hp.is.lt k) (h.hm.lt k)) h.hp.bel.size
  rw [row_append, List.length_append]
  simpa [row] using this
end

theorem own_below {w w' : World} {b : Nat} {e : TypeId} {s : Nat} {v : Value} {n : Nat} {xs : List Value} (h : w.ownsRow b e s v n xs) (k : Below w.heap.size w w') : w'.ownsRow b e s v n xs := own_same h fun i hi => k.block i (h.lt i hi).2
theorem refs_get {w0 w : World} {F : Nat → Prop} {v : Value} {l : List (Nat × Nat)} (h : Mine w0 w F 25 2 v l.length (row ref2 l)) {i : Nat} {x : Nat × Nat} (hx : l[i]? = some x) :
    ∃ g cap, v = .slice (some ⟨g, 0, none⟩) l.length cap ∧ g < w.heap.size ∧ w.cell? ⟨g, i * 2, none⟩ = some (.int .i64 x.1) ∧ w.cell? ⟨g, i * 2 + 1, none⟩ = some (.int .i64 x.2) := refs_at h.own hx

theorem placesI (pa : Nat) (s : St Int) (w : World) (h : w.cell? ⟨pa, 0, none⟩ = some (.int .i64 s.most)) : Calls Try.prog 9 #[.pointer (some ⟨pa, 0, none⟩)] w fun e w' => e = .returned (.int .i64 s.most) ∧ w' = w := by
  go_enter Try.func9, Try.ntmps9
  go_wp2
  go_ret
  exact ⟨rfl, rfl⟩
end Go.Proofs.Ytliabapopgeieaa
