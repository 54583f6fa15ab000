/- The laws' walk and shape: a heap has the shape. -/
import Derived.Test.YtnkpopeahmjodaaGreatNo
import Derived.Test.YtnkpopeahmjodaaGreatTz
namespace Go.Proofs.YtnkpopeahmjodaaGreat
open Go.ChangeShapes Go.WideShapes Go.ChangeAt Go.RowKit
open Tr

/-- an item that is held, at its first place -/
def Held (s : St) (L : List (Nat × Int × Int)) (i a : Nat) (x : Nat × Int × Int) : Prop := L[a]? = some x ∧ x.1 = i ∧ (∀ b y, b < a → L[b]? = some y → y.1 ≠ x.1) ∧ hasS s i 7 = x.2.1 ∧ hasS s i 8 = x.2.2
theorem befH_held {s : St} {L : List (Nat × Int × Int)} {i j a b : Nat} {x y : Nat × Int × Int} (h : Held s L i a x) (k : Held s L j b y) : befH x y = befF (hasS s) i j := by
  obtain ⟨_, h1, _, h2, h3⟩ := h
  obtain ⟨_, k1, _, k2, k3⟩ := k
  unfold befH befF
  rw [h2, h3, k2, k3, h1, k1]
/-- what must be true of a tree for the walk -/
structure Wk (s : St) (L : List (Nat × Int × Int)) (t : Tr) : Prop where
  hp : Hp (LS s) (hasS s) t
  lft : t.Lft
  od : t.Od (befF (hasS s))
  it : ∀ i ∈ t.items, ∃ a x, Held s L i a x
  sz : t.size ≤ L.length
theorem Wk.parts {s : St} {L : List (Nat × Int × Int)} {n i : Nat} {l r : Tr} (h : Wk s L (nd n i l r)) : Wk s L l ∧ Wk s L r := by
  have := h.sz
  simp only [Tr.size] at this
  exact ⟨⟨h.hp.2.2.2.1, h.lft.2.1, h.od.2.1, fun j hj => h.it j (by simp [Tr.items, hj]), by omega⟩, ⟨h.hp.2.2.2.2, h.lft.2.2, h.od.2.2, fun j hj => h.it j (by simp [Tr.items, hj]), by omega⟩⟩
theorem Wk.of {s : St} {t : Tr} {L : List (Nat × Int × Int)} (h : Hh s t L) : Wk s L t := by
  refine ⟨h.gd.hp, h.gd.lft, h.gd.od, fun i hi => ?_, by rw [h.len]; exact Nat.le_refl _⟩
  have hn : (L.map fun x => x.1).Nodup := h.pm.nodup_iff.2 (by
    have := h.gd.nd
    rw [(cells_perm t).nodup_iff, List.nodup_append] at this
    exact this.2.1)
  obtain ⟨x, hx, hxi⟩ := List.mem_map.1 (h.pm.mem_iff.2 hi)
  obtain ⟨a, ha⟩ := List.mem_iff_getElem?.1 hx
  refine ⟨a, x, ha, hxi, fun b y hb hy e => ?_, by rw [← hxi]; exact (h.en x hx).1, by rw [← hxi]; exact (h.en x hx).2⟩
  have h1 := (List.getElem?_eq_some_iff.1 ha)
  have h2 := (List.getElem?_eq_some_iff.1 hy)
  have := (List.pairwise_iff_getElem.1 hn) b a (by simpa using h2.1) (by simpa using h1.1) hb
  simp only [List.getElem_map] at this
  rw [h1.2, h2.2] at this
  exact this e

theorem cell_root {s : St} {n j : Nat} {t : Tr} (ok : Ok s) (hn : LS s n = true) (hj : j ≤ 9) (he : hasS s n j = t.root) (ht : Hp (LS s) (hasS s) t) : cellS s (n : Int) (j : Int) = t.root := by
  cases t with
  | lf => exact cell_neg hn hj he
  | nd m i l r => exact cell_nat ok hn hj he ht.1.1
theorem ret3 {a b c d : Int} (h1 : a = c) (h2 : b = d) : Ending.returned (.tuple #[.int .i64 a, .int .i64 b, .bool true]) = .returned (.tuple #[.int .i64 c, .int .i64 d, .bool true]) := by rw [h1, h2]

end Go.Proofs.YtnkpopeahmjodaaGreat
