/- The ring of int64: how it lies in memory; the walks of New, at, Push, Pop. -/
import Derived.Test.YtokjachnbipjjaaRng
namespace Go.Proofs.Ytokjachnbipjjaa
open Go.ChangeShapes Go.WideShapes Go.ChangeAt Go.RowKit

def oneI (x : Int) : List Value := [(.int .i64 x)]
theorem oneI_len : ∀ x, (oneI x).length = 1 := fun _ => rfl
theorem oneI_one : ∀ x, ∀ v ∈ oneI x, v.oneCell' = true := fun x v h => by simp [oneI] at h; subst h; rfl
theorem infoI : (Try.prog.info? 2).map (fun i => (i.zero, i.size, i.bytes)) = some (some (.int .i64 (0 : Int)), 1, 8) := by kernel_rfl

/-- a ring of int64 in memory -/
structure RawI (w : World) (pa : Nat) (uv : Value) (room : Nat) (pl : List Int) (first cnt : Nat) : Prop where
  blk : w.heap[pa]? = some (.cells #[.int .i64 room, uv, .int .i64 first, .int .i64 cnt] 57 (0, 0))
  used : w.ownsRow 0 2 1 uv pl.length (row oneI pl)

/-- a ring of int64 that holds l, its memory in F -/
def IsI (w : World) (F : Nat → Prop) (pa : Nat) (room : Nat) (l : List Int) : Prop :=
  ∃ uv pl first, RawI w pa uv room pl first l.length ∧ Lay room pl first l ∧ F pa ∧ (∀ k, uv.ownBlock = some k → F k) ∧ ∀ k, F k → k < w.heap.size

section
variable {w w' : World} {F G : Nat → Prop} {pa : Nat} {uv : Value} {room first cnt : Nat} {pl l l' : List Int}
theorem RawI.cells (h : RawI w pa uv room pl first cnt) : pa < w.heap.size ∧ w.cell? ⟨pa, 0, none⟩ = some (.int .i64 room) ∧ w.cell? ⟨pa, 1, none⟩ = some uv ∧ w.cell? ⟨pa, 2, none⟩ = some (.int .i64 first) ∧ w.cell? ⟨pa, 3, none⟩ = some (.int .i64 cnt) :=
  ⟨lt_of_block h.blk, blk_cell h.blk rfl, blk_cell h.blk rfl, blk_cell h.blk rfl, blk_cell h.blk rfl⟩
theorem RawI.same (h : RawI w pa uv room pl first cnt) (h0 : w'.heap[pa]? = w.heap[pa]?) (h1 : ∀ k, uv.ownBlock = some k → w'.heap[k]? = w.heap[k]?) : RawI w' pa uv room pl first cnt := ⟨h0.trans h.blk, own_same h.used h1⟩
theorem RawI.plain (h : RawI w pa uv room pl first cnt) (k : Kept (fun _ => False) w w') : RawI w' pa uv room pl first cnt :=
  h.same (k.block pa (lt_of_block h.blk) fun e => e) fun i hi => k.block i (h.used.lt i hi).2 fun e => e
/-- one place, its cell -/
theorem RawI.place (h : RawI w pa uv room pl first cnt) {i : Nat} {x : Int} (hx : pl[i]? = some x) :
    ∃ g cap, uv = .slice (some ⟨g, 0, none⟩) pl.length cap ∧ g < w.heap.size ∧ i < pl.length ∧ g ≠ pa ∧ w.frozen? ⟨g, i, none⟩ = false ∧ w.cell? ⟨g, i, none⟩ = some (.int .i64 x) := by
  have hi : i < pl.length := (List.getElem?_eq_some_iff.1 hx).1
  obtain ⟨g, cap, rfl, _, hg⟩ := h.used.form (by omega)
  refine ⟨g, cap, rfl, hg, hi, fun e => own_ne_block h.used h.blk (by decide) (by rw [e]; rfl), h.used.frozenAt i, ?_⟩
  rw [h.used.cellAt i (by omega), show i = i * 1 + 0 by omega, row_get oneI_len pl i 0 x hx (by decide)]
  rfl
/-- a place's cell turned -/
theorem RawI.store {g cap n : Nat} (h : RawI w pa (.slice (some ⟨g, 0, none⟩) n cap) room pl first cnt) {i : Nat} (hi : i < pl.length) (x : Int) :
    RawI (w.setCell ⟨g, i, none⟩ (.int .i64 x)) pa (.slice (some ⟨g, 0, none⟩) n cap) room (pl.set i x) first cnt := by
  have hn : n = pl.length := by
    rcases h.used.2 with ⟨e, _⟩ | ⟨g', cap', cur, e, _⟩
    · cases e
    · cases e; rfl
  subst hn
  have hne : (Value.slice (some ⟨g, 0, none⟩) pl.length cap).ownBlock ≠ some pa := own_ne_block h.used h.blk (by decide)
  have hgp : pa ≠ g := fun e => hne (by rw [e]; rfl)
  refine ⟨blk_other h.blk hgp, ?_⟩
  have := (h.used.stored i (.int .i64 x)).1
  rw [show i = i * 1 + 0 by omega, row_set oneI_len pl i 0 pl[i] x (.int .i64 x) (List.getElem?_eq_getElem hi) (by decide) rfl] at this
  simpa using this
/-- a field of its own turned -/
theorem RawI.setFirst (h : RawI w pa uv room pl first cnt) (f : Nat) : RawI (w.setCell ⟨pa, 2, none⟩ (.int .i64 f)) pa uv room pl f cnt := by
  refine ⟨?_, ownsRow_setCell_other h.used (own_ne_block h.used h.blk (by decide)) _⟩
  have := blk_set (j := 2) (u := .int .i64 f) h.blk
  simpa using this
theorem RawI.setCnt (h : RawI w pa uv room pl first cnt) (c : Nat) : RawI (w.setCell ⟨pa, 3, none⟩ (.int .i64 c)) pa uv room pl first c := by
  refine ⟨?_, ownsRow_setCell_other h.used (own_ne_block h.used h.blk (by decide)) _⟩
  have := blk_set (j := 3) (u := .int .i64 c) h.blk
  simpa using this

/-- a call that does not touch its memory leaves it as it is -/
theorem IsI.kept (h : IsI w F pa room l) (k : Kept G w w') (hd : ∀ k, F k → ¬ G k) : IsI w' F pa room l := by
  obtain ⟨uv, pl, first, hr, hL, h1, h2, h4⟩ := h
  have hb : ∀ i, F i → w'.heap[i]? = w.heap[i]? := fun i hi => k.block i (h4 i hi) (hd i hi)
  exact ⟨uv, pl, first, hr.same (hb pa h1) (fun i hi => hb i (h2 i hi)), hL, h1, h2, fun i hi => Nat.lt_of_lt_of_le (h4 i hi) k.size⟩
theorem IsI.lt (h : IsI w F pa room l) : ∀ k, F k → k < w.heap.size := by
  obtain ⟨_, _, _, _, _, _, _, h4⟩ := h; exact h4
theorem IsI.widen (h : IsI w F pa room l) (hg : ∀ k, F k → G k) (hl : ∀ k, G k → k < w.heap.size) : IsI w G pa room l := by
  obtain ⟨uv, pl, first, hr, hL, h1, h2, h4⟩ := h
  exact ⟨uv, pl, first, hr, hL, hg _ h1, fun k hk => hg _ (h2 k hk), hl⟩
theorem IsI.grow (h : IsI w F pa room l) (k : Kept G w w') (hd : ∀ k, F k → ¬ G k) : IsI w' (Grow F w w') pa room l :=
  (h.kept k hd).widen (fun _ e => Or.inl e) (Grow.lt h.lt k.size)
theorem IsI.fits (h : IsI w F pa room l) : l.length ≤ room ∧ 1 ≤ room ∧ room ≤ 4096 := by
  obtain ⟨_, _, _, _, hL, _⟩ := h; exact ⟨hL.fits, hL.pos, hL.top⟩

/-- one place more, laid by append and stored back -/
theorem RawI.pushed {W w1 : World} {g cap : Nat} {x : Int} (h : RawI w pa uv room pl first cnt) (f1 : F pa) (f2 : ∀ k, uv.ownBlock = some k → F k) (f4 : ∀ k, F k → k < w.heap.size)
    (hW : Kept (fun _ => False) w W) (ho : w1.ownsRow 0 2 1 (.slice (some ⟨g, 0, none⟩) (pl.length + 1) cap) (pl.length + 1) (row oneI pl ++ oneI x)) (hg : W.grownBy w1 uv.ownBlock) (hat : uv.ownBlock = some g ∨ g = W.heap.size) (hlt : g < w1.heap.size) :
    RawI (w1.setCell ⟨pa, 1, none⟩ (.slice (some ⟨g, 0, none⟩) (pl.length + 1) cap)) pa (.slice (some ⟨g, 0, none⟩) (pl.length + 1) cap) room (pl ++ [x]) first cnt ∧ Kept F w w1 ∧ (F g ∨ (w.heap.size ≤ g ∧ g < w1.heap.size)) := by
  have hne : uv.ownBlock ≠ some pa := own_ne_block h.used h.blk (by decide)
  have hb1 : w1.heap[pa]? = w.heap[pa]? := (hg.block pa (Nat.lt_of_lt_of_le (f4 pa f1) hW.size) (fun e => hne e.symm)).trans (hW.block pa (f4 pa f1) fun e => e)
  have hblk : w1.heap[pa]? = some (.cells #[.int .i64 room, uv, .int .i64 first, .int .i64 cnt] 57 (0, 0)) := hb1.trans h.blk
  have hgp : (Value.slice (some ⟨g, 0, none⟩) (pl.length + 1) cap).ownBlock ≠ some pa := own_ne_block ho hblk (by decide)
  have hk1 : Kept F w w1 := (hW.mono (fun _ e => e.elim)).grown hg (fun k hk => Or.inl (f2 k hk))
  refine ⟨⟨?_, ?_⟩, hk1, ?_⟩
  · have := blk_set (j := 1) (u := .slice (some ⟨g, 0, none⟩) (pl.length + 1) cap) hblk
    simpa using this
  · have := ownsRow_setCell_other (a := ⟨pa, 1, none⟩) ho hgp (u := .slice (some ⟨g, 0, none⟩) (pl.length + 1) cap)
    rw [row_snoc, List.length_append]
    simpa using this
  · rcases hat with q | q
    · exact Or.inl (f2 g q)
    · exact Or.inr ⟨by have := hW.size; omega, hlt⟩
end

theorem new0I (w : World) (n : Int) (k : Int) (h : k = (room0 n : Int)) : IsI (w.alloc (.cells #[.int .i64 k, .slice none 0 0, .int .i64 0, .int .i64 0] 57)) (fun k => k = w.heap.size) w.heap.size (room0 n) [] := by
  subst h
  exact ⟨.slice none 0 0, [], 0, ⟨by simpa using heap_alloc_new w _, World.ownsRow_nil _ 0 2 1⟩, Lay.start (room0_pos n) (room0_le n), rfl, fun k hk => (by cases hk), fun k hk => (by subst hk; simp)⟩
set_option maxHeartbeats 1000000 in
theorem newI (n : Int) (w : World) : Calls Try.prog 8 #[.int .i64 n] w fun e w' => ∃ F pa, e = .returned (.pointer (some ⟨pa, 0, none⟩)) ∧ IsI w' F pa (room0 n) [] ∧ (∀ k, F k → w.heap.size ≤ k) ∧ Below w.heap.size w w' := by
  go_enter Try.func8, Try.ntmps8
  go_wp2
  all_goals
    go_ret
    exact ⟨_, _, rfl, new0I w n _ (by unfold room0; omega), fun k hk => (by subst hk; exact Nat.le_refl _), (Below.refl _ _).alloc (Nat.le_refl _) _⟩

set_option maxHeartbeats 1000000 in
theorem atI (pa room first i : Nat) (w : World) (h0 : w.cell? ⟨pa, 0, none⟩ = some (.int .i64 room)) (h2 : w.cell? ⟨pa, 2, none⟩ = some (.int .i64 first)) (hp : 1 ≤ room) (ht : room ≤ 4096) (hf : first < room) (hi : i ≤ 4096) :
    Calls Try.prog 30 #[.pointer (some ⟨pa, 0, none⟩), .int .i64 i] w fun e w' => e = .returned (.int .i64 (((first + i) % room : Nat) : Int)) ∧ ∃ n, w' = w.drewN n := by
  have H := hid (at_tmod (room := room) (first := first) (i := i))
  have hne : ¬ ((room : Int) = 0) := by omega
  have hlt := wrap_lt (first + i) hp
  obtain ⟨t, hT⟩ : ∃ t : Int, Int.tmod ((first : Int) + (i : Int)) (room : Int) = t := ⟨_, rfl⟩
  have ht0 : 0 ≤ t ∧ t < room := by rw [← hT, H.out]; omega
  obtain ⟨t0, t1⟩ := ht0
  clear hlt
  go_enter Try.func30, Try.ntmps30
  go_wp2_with fail
  go_quiet (fail)
  go_wp2
  go_ret
  exact ⟨ret_int (by rw [← H.out, hT]), _, rfl⟩
end Go.Proofs.Ytokjachnbipjjaa
