/- Slices of a law's own beside an arena; entries that came in. -/
import Derived.Test.YtonflgkfbhndbaaKn
import Derived.Test.YtonflgkfbhndbaaLift
namespace Go.Proofs.Ytonflgkfbhndbaa
open Go.ChangeShapes Go.WideShapes Go.ChangeAt Go.RowKit

theorem info24 : (Try.prog.info? 24).map (fun i => (i.zero, i.size, i.bytes)) = some (some (.agg #[.int .i64 0, .int .i64 0]), 2, 16) := by kernel_rfl
theorem kept_of_grown {w w' : World} {row : Option Nat} (h : w.grownBy w' row) : Kept (fun k => row = some k) w w' := ⟨h.os, h.tape, h.output, h.size, fun k hk hn => h.block k hk fun e => hn e.symm⟩

theorem field24 (p q : Int) (w : World) : (Instr.field 24 (.agg #[.int .i64 p, .int .i64 q]) 0).run Try.prog w = .ok (.int .i64 p) w := by
  have u2 := Try.underlying2
  have a2 := Try.isAgg2
  have z2 := Try.sizeOf2
  have hS := Try.underlying24
  unfold Instr.field asAgg
  go_simp
/-- the two numbers of an entry -/
def ent2 (x : Int × Int) : List Value := [.int .i64 x.1, .int .i64 x.2]
theorem ent2_len : ∀ x, (ent2 x).length = 2 := fun _ => rfl
theorem ent2_one : ∀ x, ∀ v ∈ ent2 x, v.oneCell' = true := fun x v h => by
  simp [ent2] at h
  rcases h with rfl | rfl <;> rfl

/-- a slice that the call made, s cells an element, outside of F -/
structure Mine (w0 w : World) (F : Nat → Prop) (e : TypeId) (s : Nat) (v : Value) (n : Nat) (xs : List Value) : Prop where
  own : w.ownsRow 0 e s v n xs
  out : ∀ k, v.ownBlock = some k → ¬ F k ∧ w0.heap.size ≤ k

section
variable {w0 w w' : World} {F G : Nat → Prop} {e : TypeId} {s : Nat} {v : Value} {n : Nat} {xs : List Value}
theorem Mine.nil (w0 w : World) (F : Nat → Prop) (e : TypeId) (s : Nat) : Mine w0 w F e s (.slice none 0 0) 0 [] := ⟨World.ownsRow_nil w 0 e s, fun k hk => by cases hk⟩
theorem Mine.call (h : Mine w0 w F e s v n xs) (k : Kept F w w') : Mine w0 w' (Grow F w w') e s v n xs :=
  ⟨own_kept h.own k fun i hi => (h.out i hi).1, fun i hi => ⟨fun q => q.elim (h.out i hi).1 fun q => by have := (h.own.lt i hi).2; omega, (h.out i hi).2⟩⟩
theorem Mine.stay (h : Mine w0 w F e s v n xs) (k : Kept F w w') : Mine w0 w' F e s v n xs := ⟨own_kept h.own k fun i hi => (h.out i hi).1, h.out⟩
theorem Mine.plain (h : Mine w0 w F e s v n xs) (k : Kept (fun _ => False) w w') : Mine w0 w' F e s v n xs := ⟨own_plain h.own k, h.out⟩
theorem Mine.other (h : Mine w0 w F e s v n xs) (k : Kept G w w') (hd : ∀ i, v.ownBlock = some i → ¬ G i) : Mine w0 w' F e s v n xs := ⟨own_kept h.own k hd, h.out⟩
theorem Mine.lt (h : Mine w0 w F e s v n xs) : ∀ k, v.ownBlock = some k → k < w.heap.size := fun k hk => (h.own.lt k hk).2
/-- something is appended -/
theorem Mine.pushed {g cap m : Nat} {news : List Value} (h : Mine w0 w F e s v n xs) (ho : w'.ownsRow 0 e s (.slice (some ⟨g, 0, none⟩) (n + m) cap) (n + m) (xs ++ news)) (hat : v.ownBlock = some g ∨ w.heap.size ≤ g) (hF : ∀ k, F k → k < w.heap.size) (hB : w0.heap.size ≤ w.heap.size) :
    Mine w0 w' F e s (.slice (some ⟨g, 0, none⟩) (n + m) cap) (n + m) (xs ++ news) := by
  refine ⟨ho, fun k hk => ?_⟩
  cases hk
  show ¬ F g ∧ w0.heap.size ≤ g
  rcases hat with q | q
  · exact h.out g q
  · exact ⟨fun z => by have := hF _ z; omega, by omega⟩
theorem HoldA.pushed {pa pm m : Nat} {z : St} {o : Obj} (h : HoldA w0 w F pa pm z) (hm : Mine w0 w F e s v m xs) (hg : (w.alloc o).grownBy w' v.ownBlock) : HoldA w0 w' F pa pm z :=
  (h.plain ((Kept.refl _ _).alloc _)).other (kept_of_grown hg) (fun i hi => (hm.out i hi).2) (fun i hF hi => (hm.out i hi).1 hF)
end

theorem rng_row (a i : Nat) : row nat1 (List.range' a (i + 1)) = row nat1 (List.range' a i) ++ [.int .i64 ((a + i : Nat) : Int)] := by
  rw [List.range'_concat, row_snoc]; simp [nat1]
/-- one more number behind those from a on -/
theorem Mine.range {w0 w w' : World} {F : Nat → Prop} {v : Value} {a i g cap : Nat} (h : Mine w0 w F 3 1 v i (row nat1 (List.range' a i))) (ho : w'.ownsRow 0 3 1 (.slice (some ⟨g, 0, none⟩) (i + 1) cap) (i + 1) (row nat1 (List.range' a i) ++ [.int .i64 ((a + i : Nat) : Int)])) (hat : v.ownBlock = some g ∨ w.heap.size ≤ g) (hF : ∀ k, F k → k < w.heap.size) (hB : w0.heap.size ≤ w.heap.size) :
    Mine w0 w' F 3 1 (.slice (some ⟨g, 0, none⟩) (i + 1) cap) (i + 1) (row nat1 (List.range' a (i + 1))) := by
  rw [rng_row]
  exact h.pushed ho hat hF hB
theorem rng_at {a i j : Nat} (h : j < i) : (List.range' a i)[j]? = some (a + j) := by rw [List.getElem?_range' h]; simp
theorem mine_at {w0 w : World} {F : Nat → Prop} {g n m cap : Nat} {l : List Nat} (h : Mine w0 w F 3 1 (.slice (some ⟨g, 0, none⟩) n cap) m (row nat1 l)) (hm : m = l.length) {i x : Nat} (hx : l[i]? = some x) : w.cell? ⟨g, i, none⟩ = some (.int .i64 (x : Int)) := by
  subst hm
  obtain ⟨g', cap', e, _, _, hc⟩ := own1_at h.own nat1_len hx
  cases e
  exact hc
theorem mine_rng {w0 w : World} {F : Nat → Prop} {g n m cap a : Nat} (h : Mine w0 w F 3 1 (.slice (some ⟨g, 0, none⟩) n cap) m (row nat1 (List.range' a m))) {i : Nat} (hi : i < m) : w.cell? ⟨g, i, none⟩ = some (.int .i64 ((a + i : Nat) : Int)) :=
  mine_at h (by simp) (rng_at hi)
end Go.Proofs.Ytonflgkfbhndbaa
