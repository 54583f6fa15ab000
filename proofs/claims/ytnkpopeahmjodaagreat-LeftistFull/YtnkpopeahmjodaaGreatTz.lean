/- Which item is the least; how great Ranks are; the laws' world and its heaps together. -/
import Derived.Test.YtnkpopeahmjodaaGreatTy
import Derived.Test.YtnkpopeahmjodaaGreatWd
namespace Go.Proofs.YtnkpopeahmjodaaGreat
open Go.ChangeShapes Go.WideShapes Go.ChangeAt Go.RowKit
open Tr

theorem bts_mono {a b : Nat} (h : a ≤ b) : bts a ≤ bts b := bts_le _ _ (Nat.lt_of_le_of_lt h (bts_lt b))
theorem rank_bts {t : Tr} (h : t.Lft) : t.rank ≤ bts t.size := by
  have h1 := rank_size t h
  have h2 := bts_lt t.size
  have : 2 ^ t.rank ≤ 2 ^ bts t.size := by omega
  exact (Nat.pow_le_pow_iff_right (by decide)).1 this

theorem meld_steps_ge : ∀ (n : Nat) (s : St) (r t : Int), s.steps ≤ (meldS n s r t).2.steps
  | 0, s, r, t => Nat.le_refl _
  | n + 1, s, r, t => by
    unfold meldS
    split
    · exact Nat.le_refl _
    · split
      · exact Nat.le_refl _
      · rw [lean_steps]
        have := meld_steps_ge n (tk s 10) (rcS s (topS s r t)) (othS s r t)
        have e : (tk s 10).steps = s.steps + 10 := rfl
        omega
theorem befF_ne {f : Nat → Nat → Int} {a b : Nat} (h : a ≠ b) : befF f a b = true ∨ befF f b a = true := by
  simp [befF, bef]; omega
theorem befF_self (f : Nat → Nat → Int) (a : Nat) : befF f a a = false := by simp [befF, bef]
theorem befH_tot : (∀ x y, befH x y = true → befH y x = false) ∧ (∀ x y z, befH y x = false → befH z y = false → befH z x = false) ∧ (∀ x, befH x x = false) := by
  refine ⟨fun x y h => ?_, fun x y z h1 h2 => ?_, fun x => ?_⟩
  · simp [befH, bef] at h ⊢; omega
  · simp [befH, bef] at h1 h2 ⊢; omega
  · simp [befH, bef]
theorem lst_least (L : List (Nat × Int × Int)) : ∀ j, j < L.length → ∃ y, L[lstS L j]? = some y ∧ ∀ m ≤ j, ∀ x, L[m]? = some x → befH x y = false
  | 0, h => by
    refine ⟨L[0], List.getElem?_eq_getElem h, fun m hm x hx => ?_⟩
    obtain rfl : m = 0 := by omega
    rw [List.getElem?_eq_getElem h] at hx
    injection hx with hx
    subst hx
    exact befH_tot.2.2 _
  | j + 1, h => by
    obtain ⟨y, hy, hl⟩ := lst_least L j (by omega)
    have hx : L[j + 1]? = some L[j + 1] := List.getElem?_eq_getElem h
    unfold lstS
    rw [hx, hy]
    simp only
    by_cases q : befH L[j + 1] y = true
    · rw [if_pos q]
      refine ⟨L[j + 1], hx, fun m hm x hm' => ?_⟩
      by_cases e : m = j + 1
      · subst e; rw [hx] at hm'; injection hm' with hm'; subst hm'; exact befH_tot.2.2 _
      · exact befH_tot.2.1 _ y x (befH_tot.1 _ _ q) (hl m (by omega) x hm')
    · rw [if_neg q]
      refine ⟨y, hy, fun m hm x hm' => ?_⟩
      by_cases e : m = j + 1
      · subst e; rw [hx] at hm'; injection hm' with hm'; subst hm'; simpa using q
      · exact hl m (by omega) x hm'
theorem split_at {α : Type} {L : List α} {k : Nat} {y : α} (h : L[k]? = some y) : L = L.take k ++ y :: L.drop (k + 1) ∧ (L.take k).length = k := by
  obtain ⟨hk, e⟩ := List.getElem?_eq_some_iff.1 h
  subst e
  exact ⟨by rw [← List.drop_eq_getElem_cons hk, List.take_append_drop], by simp; omega⟩
/-- the least is the root's -/
theorem least_root {s : St} {n i : Nat} {l r : Tr} {L : List (Nat × Int × Int)} (h : Hh s (nd n i l r) L) : ∃ x, L[lstS L (L.length - 1)]? = some x ∧ x.1 = i := by
  have hlen := h.len
  simp only [size] at hlen
  obtain ⟨y, hy, hl⟩ := lst_least L (L.length - 1) (by omega)
  refine ⟨y, hy, ?_⟩
  have hF : ∀ x ∈ L, ∀ z ∈ L, befH x z = befF (hasS s) x.1 z.1 := fun x hx z hz => by
    have e1 := h.en x hx
    have e2 := h.en z hz
    unfold befH befF
    rw [e1.1, e1.2, e2.1, e2.2]
  have hym : y ∈ L := List.mem_of_getElem? hy
  have him : i ∈ L.map (fun x => x.1) := h.pm.mem_iff.2 (by simp [items])
  obtain ⟨x, hx, hxi⟩ := List.mem_map.1 him
  obtain ⟨m, hm⟩ := List.mem_iff_getElem?.1 hx
  have hml : m < L.length := (List.getElem?_eq_some_iff.1 hm).1
  have q1 := hl m (by omega) x hm
  rw [hF x hx y hym, hxi] at q1
  have q2 : befF (hasS s) y.1 i = false := by
    have := h.mem hym
    simp only [items, List.mem_cons] at this
    rcases this with e | e
    · rw [e]; exact befF_self _ _
    · exact h.gd.od.1 y.1 e
  rcases Nat.decEq y.1 i with e | e
  · rcases befF_ne (f := hasS s) e with z | z
    · rw [q2] at z; cases z
    · rw [q1] at z; cases z
  · exact e

/-- what is left when the least is popped -/
def popL (L : List (Nat × Int × Int)) : List (Nat × Int × Int) := L.take (lstS L (L.length - 1)) ++ L.drop (lstS L (L.length - 1) + 1)
theorem popL_nil : popL [] = [] := rfl
theorem popL_len {L : List (Nat × Int × Int)} (h : L ≠ []) : (popL L).length = L.length - 1 := by
  have h0 : 0 < L.length := List.length_pos_iff.2 h
  have := lstS_le L (L.length - 1)
  unfold popL
  simp; omega

/-- the laws' world: what its heaps hold; how many cells there are; its steps at most -/
def Sit (w0 : Fm) (w : World) (pw N K : Nat) (L0 L1 : List (Nat × Int × Int)) (nx : Int) : Prop := ∃ F pa pm v0 v1 s t u sp mo, Wx w0 w F pw pa pm v0 v1 s (Tr.root t) (Tr.root u) L0 L1 nx sp mo ∧ Inv s t u L0 L1 ∧ s.steps ≤ K ∧ s.most = N
theorem Sit.drewN {w0 : Fm} {w : World} {pw N K : Nat} {L0 L1 : List (Nat × Int × Int)} {nx : Int} (h : Sit w0 w pw N K L0 L1 nx) (n : Nat) : Sit w0 (w.drewN n) pw N K L0 L1 nx := by
  obtain ⟨F, pa, pm, v0, v1, s, t, u, sp, mo, h1, h2⟩ := h
  exact ⟨F, pa, pm, v0, v1, s, t, u, sp, mo, h1.drewN n, h2⟩
theorem Sit.mono {w0 : Fm} {w : World} {pw N K K' : Nat} {L0 L1 : List (Nat × Int × Int)} {nx : Int} (h : Sit w0 w pw N K L0 L1 nx) (hk : K ≤ K') : Sit w0 w pw N K' L0 L1 nx := by
  obtain ⟨F, pa, pm, v0, v1, s, t, u, sp, mo, h1, h2, h3, h4⟩ := h
  exact ⟨F, pa, pm, v0, v1, s, t, u, sp, mo, h1, h2, by omega, h4⟩
theorem Sit.kep {w0 : Fm} {w : World} {pw N K : Nat} {L0 L1 : List (Nat × Int × Int)} {nx : Int} (h : Sit w0 w pw N K L0 L1 nx) : Kept w0.T w0.w w := by
  obtain ⟨F, pa, pm, v0, v1, s, t, u, sp, mo, h1, h2⟩ := h
  exact h1.kep
theorem Sit.bel {w0 w : World} {pw N K : Nat} {L0 L1 : List (Nat × Int × Int)} {nx : Int} (h : Sit (Fm.of w0) w pw N K L0 L1 nx) : Below w0.heap.size w0 w := h.kep.below (Nat.le_refl _) fun _ e => e.elim
theorem Sit.plain {w0 : Fm} {w w' : World} {pw N K : Nat} {L0 L1 : List (Nat × Int × Int)} {nx : Int} (h : Sit w0 w pw N K L0 L1 nx) (k : Kept (fun _ => False) w w') : Sit w0 w' pw N K L0 L1 nx := by
  obtain ⟨F, pa, pm, v0, v1, s, t, u, sp, mo, h1, h2⟩ := h
  exact ⟨F, pa, pm, v0, v1, s, t, u, sp, mo, h1.plain k, h2⟩
/-- from here on: what may turn are the world's own blocks -/
theorem Sit.re {w0 : Fm} {w : World} {pw N K : Nat} {L0 L1 : List (Nat × Int × Int)} {nx : Int} (h : Sit w0 w pw N K L0 L1 nx) :
    ∃ T : Nat → Prop, (∀ b, T b → (w0.T b ∨ w0.w.heap.size ≤ b) ∧ b < w.heap.size) ∧ Sit ⟨w, T⟩ w pw N K L0 L1 nx := by
  obtain ⟨F, pa, pm, v0, v1, s, t, u, sp, mo, h1, h2⟩ := h
  have hlt := h1.lt
  refine ⟨fun b => F b ∨ b = pw, fun b hb => ?_, F, pa, pm, v0, v1, s, t, u, sp, mo, ⟨h1.blk, h1.is, h1.out, h1.l0, h1.l1, fun k hk => Or.inl (Or.inl hk), Or.inl (Or.inr rfl), Kept.refl _ _⟩, h2⟩
  rcases hb with hb | hb
  · exact ⟨h1.new b hb, h1.is.lt b hb⟩
  · subst hb; exact ⟨h1.pwn, hlt⟩
end Go.Proofs.YtnkpopeahmjodaaGreat
