/- ItemNumbers returns true, and nothing that was there has turned: chapter 7's runs, entries at each bound, items that change their nodes. -/
import Derived.Test.YtonflgkfbhndbaaPl
namespace Go.Proofs.Ytonflgkfbhndbaa
open Go.ChangeShapes Go.WideShapes Go.ChangeAt Go.RowKit

theorem came_blk {α : Type} {w : World} {b : Nat} {t : TypeId} {cs : Array Value} {c : Nat} {f : α → List Value} {l : List α} (h : w.heap[b]? = some (.cells cs t)) (hcs : cs.toList = row f l) (hf : ∀ x, (f x).length = c) : Came w (some ⟨b, 0, none⟩) c f l := by
  refine Or.inr ⟨b, 0, rfl, lt_of_block h, fun i x hx j hj => ?_⟩
  have h1 : (f x)[j]? = some ((f x)[j]'(by rw [hf]; exact hj)) := List.getElem?_eq_getElem _
  rw [h1]
  refine blk_cell h ?_
  rw [Nat.zero_add, ← Array.getElem?_toList, hcs, row_get hf l i j x hx hj, h1]

def numE : List (Int × Int) := [(0, 0), (-9223372036854775808, 0), (9223372036854775807, 5), (0, -1), (0, 0), (3, 3)]
def numS : List Int := [0, 1, 2, 3, 4, 5, 6, 7, 8]
def numK : List Int := [5, -1, -9223372036854775808, 0, 3, 3]

theorem alloc3 (w : World) (o1 o2 o3 : Obj) : (((w.alloc o1).alloc o2).alloc o3).heap[w.heap.size]? = some o1 ∧ (((w.alloc o1).alloc o2).alloc o3).heap[w.heap.size + 1]? = some o2 ∧ (((w.alloc o1).alloc o2).alloc o3).heap[w.heap.size + 1 + 1]? = some o3 ∧ Below w.heap.size w (((w.alloc o1).alloc o2).alloc o3) := by
  have e1 : (w.alloc o1).heap.size = w.heap.size + 1 := by simp
  have e2 : ((w.alloc o1).alloc o2).heap.size = w.heap.size + 1 + 1 := by simp
  refine ⟨?_, ?_, ?_, (((Below.refl _ _).alloc (Nat.le_refl _) _).alloc (by simp) _).alloc (by simp; omega) _⟩
  · exact ((Below.heap_alloc _ _ _ (by rw [e2]; omega)).trans (Below.heap_alloc _ _ _ (by rw [e1]; omega))).trans (heap_alloc_new w o1)
  · have := heap_alloc_new (w.alloc o1) o2
    rw [e1] at this
    exact (Below.heap_alloc _ _ _ (by rw [e2]; omega)).trans this
  · have := heap_alloc_new ((w.alloc o1).alloc o2) o3
    rwa [e2] at this

set_option maxHeartbeats 4000000 in
theorem numbers_walk (w : World) : Calls Try.prog 3 #[] w fun e w' => e = .returned (.bool true) ∧ Below w.heap.size w w' := by
  have P : Hid (∀ W, Came W (some ⟨w.heap.size, 0, none⟩) 2 ent2 numE → Came W (some ⟨w.heap.size + 1, 0, none⟩) 1 oneI numS → Came W (some ⟨w.heap.size + 1 + 1, 0, none⟩) 1 oneI numK → Calls Try.prog 4 #[.slice (some ⟨w.heap.size, 0, none⟩) 6 6, .slice (some ⟨w.heap.size + 1, 0, none⟩) 9 9, .slice (some ⟨w.heap.size + 1 + 1, 0, none⟩) 6 6] W fun e w' => e = .returned (.bool true) ∧ Below W.heap.size W w') :=
    fun W h1 h2 h3 => plays_walk _ 6 numE (by decide) _ 9 numS (by decide) _ 6 numK (by decide) W h1 h2 h3 (fun x hx => by simp [numS] at hx; unfold I64; omega)
  go_enter Try.func3, Try.ntmps3
  go_wp2_with fail
  obtain ⟨b1, b2, b3, bl⟩ := alloc3 w (.cells #[.int .i64 0, .int .i64 0, .int .i64 (-9223372036854775808), .int .i64 0, .int .i64 9223372036854775807, .int .i64 5, .int .i64 0, .int .i64 (-1), .int .i64 0, .int .i64 0, .int .i64 3, .int .i64 3] 24) (.cells #[.int .i64 0, .int .i64 1, .int .i64 2, .int .i64 3, .int .i64 4, .int .i64 5, .int .i64 6, .int .i64 7, .int .i64 8] 3) (.cells #[.int .i64 5, .int .i64 (-1), .int .i64 (-9223372036854775808), .int .i64 0, .int .i64 3, .int .i64 3] 2)
  refine (P.out _ (came_blk b1 rfl ent2_len) (came_blk b2 rfl oneI_len) (came_blk b3 rfl oneI_len)).mono ?_
  rintro e w5 ⟨rfl, h5⟩
  have B5 := hid (bl.trans (h5.mono bl.size))
  clear h5 b1 b2 b3 bl P
  go_wp2_with fail
  refine (known_any _).mono ?_
  rintro e w7 ⟨rfl, h7⟩
  have B7 := hid (B5.out.trans (h7.mono B5.out.size))
  clear h7
  go_wp2
  go_ret
  exact ⟨rfl, B7.out⟩

set_option maxRecDepth 100000 in
theorem itemNumbers_lifted (os : Os) (started : os.Started) (H : Type) (enc : TypeId × Value → H) :
    ReturnsInHanded {} Try.checked os 3 .any (Rows.itemNumbersSpec.pre6 enc Try.prog Try.f3 Rows.itemNumbersRow.domain false) (Rows.itemNumbersSpec.post enc Try.prog Try.f3 false true false false) := by
  refine returnsInHanded_of_change (C := Try.checked) own' started (by kernel_rfl) Try.func3
    (ChangeSpec.witness6 (enc := enc) (C := Try.checked) false ⟨#[], #[], []⟩ 8 (by kernel_rfl) (by kernel_rfl) (by kernel_rfl) (by kernel_rfl)) ?_
  intro W base args ds gs before hval0 hW hcnd _
  have hW' := hW
  obtain ⟨p, q, hA0, hV, rfl, hfz, hnd⟩ := hW
  have hA : DataW.TrodAll enc Try.prog W 0 (fun _ => true) true Try.f3.params.toList args.toList ds p := hA0
  rw [Try.params3] at hA
  obtain ⟨hargs, rfl, rfl⟩ := trodAll_nil hA
  obtain rfl : args = #[] := by cases args; simp_all
  obtain ⟨rfl, rfl⟩ := trodVars_none hV
  clear hA0 hval0
  refine (numbers_walk W).mono fun e W' ⟨he, bel⟩ => ?_
  subst he
  exact ⟨_, rfl, _, _, _, [], [], [], hW', trodAll_mk1 (shut_bool Try.underlying4 _), trodAll_mk0, rfl, bel.frame _, fun h => by cases h⟩

theorem itemNumbers_holds : Rows.ItemNumbersSaid :=
  OpenClaim.holds_of_wide 3 Try.f3 rfl rfl rfl rfl rfl rfl rfl ⟨rfl, rfl, rfl, rfl, rfl⟩ rfl rfl rfl rfl rfl (by kernel_rfl) Try.func3 (by kernel_rfl)
    (of_decide_eq_true (by kernel_rfl)) (by unfold Func.isWrapper; first | (rw [if_pos (by decide +kernel)]; kernel_rfl) | (rw [if_neg (by decide +kernel)]; exact ⟨rfl, rfl⟩))
    (fun os started H enc _ => itemNumbers_lifted os started H enc)
#print axioms itemNumbers_holds
end Go.Proofs.Ytonflgkfbhndbaa
