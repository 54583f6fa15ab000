/- The walk of the laws' own making of near entries: some entries, no more than asked for, in memory of its own. -/
import Derived.Test.YtjjahhiaelaocaaSam
namespace Go.Proofs.Ytjjahhiaelaocaa
open Go.ChangeShapes Go.WideShapes Go.ChangeAt Go.RowKit

theorem own_alloc {w : World} {base : Nat} {e : TypeId} {size : Nat} {v : Value} {n : Nat} {xs : List Value} (h : w.ownsRow base e size v n xs) (o : Obj) : (w.alloc o).ownsRow base e size v n xs :=
  h.kept (World.grownBy_alloc w o none) (by cases v.ownBlock <;> simp)

/-- one entry in a new block, as append reads it -/
theorem news_two (w : World) (g : Nat) (hg : g = w.heap.size) (p q : Int) (j : Nat) (u : Value) (h : [(.int .i64 p : Value), .int .i64 q][j]? = some u) : (w.alloc (.cells #[.int .i64 p, .int .i64 q] 26)).cell? ((⟨g, 0, none⟩ : Addr).add j) = some u := by
  subst hg
  match j, h with
  | 0, h => simp at h; subst h; simp [Addr.add]
  | 1, h => simp at h; subst h; simp [Addr.add]
  | j + 2, h => simp at h

theorem one_two (p q : Int) : ∀ u ∈ [(.int .i64 p : Value), .int .i64 q], u.oneCell' = true := by
  intro u hu
  simp at hu
  rcases hu with rfl | rfl <;> rfl

theorem flat_snoc (m : List (Int × Int)) (p q : Int) : flat m ++ [.int .i64 p, .int .i64 q] = flat (m ++ [(p, q)]) := by rw [flat_append]; rfl

theorem own_block_ge {w : World} {base : Nat} {e : TypeId} {size : Nat} {v : Value} {n : Nat} {xs : List Value} (h : w.ownsRow base e size v n xs) : ∀ k, v.ownBlock = some k → base ≤ k := by
  obtain ⟨_, h | ⟨g, cap, cur, rfl, h1, _⟩⟩ := h
  · rw [h.1]; intro k hk; cases hk
  · intro k hk; cases hk; exact h1

set_option maxHeartbeats 2000000 in
theorem entries_any (a : Option Addr) (cap most : Nat) (l : List (Int × Int)) (w : World) (hl : l.length ≤ maxLen) (hm : most ≤ 1000) (hE : Ents w a l) :
    Calls Try.prog 10 #[.slice a l.length cap, .int .i64 most] w fun e w' => ∃ v m, e = .returned v ∧ m.length ≤ most ∧ w'.ownsRow w.heap.size 26 2 v m.length (flat m) ∧ Below w.heap.size w w' := by
  unfold maxLen at hl
  obtain ⟨ti, hti, hz0, hz1, hz2⟩ := info_parts info26
  have HT := hid hti
  have Z0 := hid hz0
  have Z1 := hid hz1
  have Z2 := hid hz2
  clear hti hz0 hz1 hz2
  go_enter Try.func10, Try.ntmps10
  go_wp2
  go_loopw [5, 6] (fun ov iv wr => ∃ (k : Nat) (m : List (Int × Int)), iv = .int .i64 k ∧ k ≤ most ∧ m.length = k ∧ wr.ownsRow w.heap.size 26 2 ov m.length (flat m) ∧ Below w.heap.size w wr) (fun _ i _ => most - (intOf i).toNat)
  case atStart => exact ⟨0, [], rfl, Nat.zero_le _, rfl, ⟨rfl, Or.inl ⟨rfl, rfl⟩⟩, Below.refl _ _⟩
  case round =>
    obtain ⟨k, m, rfl, hk, hmk, hown, hbel⟩ := hrel
    have HO := hid hown
    have BL := hid hbel
    have MK := hid hmk
    clear hmk
    by_cases hlt : k < l.length
    · have hlt1 : (k : Int) < (l.length : Int) := by omega
      by_cases hlt2 : k < most
      · obtain ⟨b, off, rfl, hb, hr⟩ := hE.resolve_left (fun e => by rw [e] at hlt; simp at hlt)
        have hr' := hr.below hb hbel
        have hbr : b < wr.heap.size := Nat.lt_of_lt_of_le hb hbel.size
        obtain ⟨h1, h2⟩ := hr' k hlt
        generalize (ent l k) = x at h1 h2
        clear hE hr hr' hown hbel
        by_cases h3 : k % 3 = 2
        · have h3' : ((k : Int) % 3 != 2) = false := by rw [bne_eq_false_iff_eq]; omega
          clear h3
          go_wp2_with (at_builtin; refine wpList_append_own _ rfl (.tmp 34) (.tmp 36) 27 rfl w.heap.size 26 ti _ 2 16 Try.underlying27 HT.out Z0.out Z1.out Z2.out rfl (by decide) u5 m.length (flat m) rfl (own_alloc (own_alloc HO.out _) _) ⟨wr.heap.size + 1, 0, none⟩ 1 1 [.int .i64 (x.1), .int .i64 (x.2)] rfl rfl (fun j u h => by exact news_two (wr.alloc _) _ (by simp) _ _ j u h) (one_two _ _) (by have := MK.out; simp [maxLen]; omega) (by have := MK.out; omega) (by have := BL.out.size; simp; omega) ?_; intro v' w' ho' hg' hn'; have HO' := hid ho'; have BL' := hid ((below_a2 BL.out (Nat.le_refl _) _ _).grown hg' (by have := BL.out.size; simp; omega) (own_block_ge HO.out)); clear ho' hg' hn')
          go_roundw
          case rel =>
            refine ⟨k + 1, m ++ [(x.1, x.2)], by go_num, by omega, by rw [List.length_append, MK.out]; rfl, ?_, BL'.out⟩
            rw [List.length_append, ← flat_snoc]; exact HO'.out
          case measure => simp [intOf]; omega
        · have h3' : ((k : Int) % 3 != 2) = true := by rw [bne_iff_ne]; omega
          clear h3
          go_wp2_with (at_builtin; refine wpList_append_own _ rfl (.tmp 34) (.tmp 36) 27 rfl w.heap.size 26 ti _ 2 16 Try.underlying27 HT.out Z0.out Z1.out Z2.out rfl (by decide) u5 m.length (flat m) rfl (own_alloc (own_alloc HO.out _) _) ⟨wr.heap.size + 1, 0, none⟩ 1 1 [.int .i64 (x.1.tmod 4), .int .i64 (x.2.tmod 3)] rfl rfl (fun j u h => by exact news_two (wr.alloc _) _ (by simp) _ _ j u h) (one_two _ _) (by have := MK.out; simp [maxLen]; omega) (by have := MK.out; omega) (by have := BL.out.size; simp; omega) ?_; intro v' w' ho' hg' hn'; have HO' := hid ho'; have BL' := hid ((below_a2 BL.out (Nat.le_refl _) _ _).grown hg' (by have := BL.out.size; simp; omega) (own_block_ge HO.out)); clear ho' hg' hn')
          go_roundw
          case rel =>
            refine ⟨k + 1, m ++ [(x.1.tmod 4, x.2.tmod 3)], by go_num, by omega, by rw [List.length_append, MK.out]; rfl, ?_, BL'.out⟩
            rw [List.length_append, ← flat_snoc]; exact HO'.out
          case measure => simp [intOf]; omega
      · have hlt3 : decide ((k : Int) < (most : Int)) = false := by simp; omega
        go_wp2
        go_ret
        exact ⟨_, m, rfl, by have := MK.out; omega, HO.out, BL.out⟩
    · have hlt1 : decide ((k : Int) < (l.length : Int)) = false := by simp; omega
      go_wp2
      go_ret
      exact ⟨_, m, rfl, by have := MK.out; omega, HO.out, BL.out⟩
end Go.Proofs.Ytjjahhiaelaocaa
