/- Fall and Cut: what the calls answer, over heaps and lists. -/
import Derived.Test.YtnkpopeahmjodaaGreatZt
namespace Go.Proofs.YtnkpopeahmjodaaGreat
open Go.ChangeShapes Go.WideShapes Go.ChangeAt Go.RowKit
open Tr

theorem bts_self : ∀ n : Nat, bts n ≤ n := fun n => bts_le n n (Nat.lt_two_pow_self)
theorem det_steps_ge : ∀ (k : Nat) (s : St) (up : Int), s.steps ≤ (detS k s up).steps
  | 0, s, up => Nat.le_refl _
  | k + 1, s, up => by
    unfold detS
    split
    · show s.steps ≤ s.steps + 4; omega
    · split
      · have := det_steps_ge k (tk (dtS s up) 1) (cellS (dtS s up) up 0)
        have e : (tk (dtS s up) 1).steps = s.steps + 12 + 1 := by show (dtS s up).steps + 1 = _; rw [dt_steps]
        omega
      · rw [dt_steps]; omega
theorem ds_steps_ge (kd : Nat) (s : St) (n : Int) (k : Nat) : s.steps + k + 2 ≤ (dS kd s n k).steps := by
  unfold dS
  have := det_steps_ge kd (setS (tk (tk s k) 1) n 0 (-1)) (cellS s n 0)
  rw [set_steps] at this
  have e : (tk (tk s k) 1).steps = s.steps + k + 1 := rfl
  omega

section
variable {F : Nat → Prop} {w0 w : World} {pa pm : Nat} {s : St} {t u : Tr} {L M l1 l2 : List (Nat × Int × Int)} {x : Nat × Int × Int}
theorem room_two (h : Inv s t u L M) : 2 * (L.length + M.length) ≤ s.most := by
  have a := h.ok.count
  have b := h.ok.fits
  have c := h.num
  omega
/-- Fall, of an item whose Key was lowered -/
theorem fallC (h : Inv s t u L M) (hl : L.length ≤ 1000) (hm : M.length ≤ 1000) (hL : L = l1 ++ x :: l2) (key : Int) (hk : key ≤ x.2.1) (he : Ex F w0 w pa pm (lowS s (x.1 : Int) key)) (hs : s.steps ≤ 95000000) :
    Calls Tryz.prog 39 #[.pointer (some ⟨pa, 0, none⟩), .int .i64 t.root, .int .i64 (x.1 : Int)] w fun e w' => ∃ (t' : Tr) (s' : St), e = .returned (.int .i64 t'.root) ∧ Ex F w0 w' pa pm s' ∧ Inv s' t' u (l1 ++ l2 ++ [(x.1, key, x.2.2)]) M ∧ s'.most = s.most ∧ s.steps + 2 ≤ s'.steps ∧ s'.steps ≤ s.steps + 2 + (100 + 100 * bts L.length) := by
  obtain ⟨_, e2, e3, n, en, cn, cr, hh⟩ := fall_inv h (by omega) hL key hk
  have b1 := bts_le 10 L.length (by omega)
  have b2 := bts_self L.length
  have hr := room_two h
  have ht := h.ok.top
  rcases hh with ⟨q, hi⟩ | ⟨h2, q1, q2, hd, hme, hi⟩
  · refine (fallT_stay t.root (x.1 : Int) (n : Int) en q he (by omega)).mono ?_
    rintro e w1 ⟨rfl, k, hk, e1⟩
    exact ⟨t, _, rfl, e1, hi.tk k, e3, by show s.steps + 2 ≤ (lowS s (x.1 : Int) key).steps + k; omega, by show (lowS s (x.1 : Int) key).steps + k ≤ _; omega⟩
  · refine (fallT (bts L.length + 2) (2 * bts L.length + 1) t.root (x.1 : Int) (n : Int) en q1 q2 hd hme (by omega) (by omega) cr cn he (by omega)).mono ?_
    rintro e w1 ⟨k, hk, rfl, e1⟩
    obtain ⟨t', r', i'⟩ := hi k
    have a1 := meld_steps (2 * bts L.length + 1) (dS (bts L.length + 2) (lowS s (x.1 : Int) key) (n : Int) k) t.root (n : Int)
    have a2 := meld_steps_ge (2 * bts L.length + 1) (dS (bts L.length + 2) (lowS s (x.1 : Int) key) (n : Int) k) t.root (n : Int)
    have a3 := ds_steps (bts L.length + 2) (lowS s (x.1 : Int) key) (n : Int) k
    have a4 := ds_steps_ge (bts L.length + 2) (lowS s (x.1 : Int) key) (n : Int) k
    exact ⟨t', _, by rw [r'], e1, i', by rw [meld_most, ds_most, e3], by omega, by omega⟩
/-- Cut -/
theorem cutC (h : Inv s t u L M) (hl : L.length ≤ 1000) (hm : M.length ≤ 1000) (hL : L = l1 ++ x :: l2) (he : Aft F w0 w pa pm s) (hs : s.steps ≤ 95000000) :
    Calls Tryz.prog 40 #[.pointer (some ⟨pa, 0, none⟩), .int .i64 t.root, .int .i64 (x.1 : Int)] w fun e w' => ∃ (t' : Tr) (s' : St), e = .returned (.int .i64 t'.root) ∧ Aft F w0 w' pa pm s' ∧ Inv1 s' t' u (l1 ++ l2) M x.1 ∧ s'.most = s.most ∧ s.steps ≤ s'.steps ∧ s'.steps ≤ s.steps + (200 + 100 * bts L.length) := by
  obtain ⟨n, en, cr, hh⟩ := cut_inv h (by omega) hL
  have b1 := bts_le 10 L.length (by omega)
  have b2 := bts_self L.length
  have hr := room_two h
  have ht := h.ok.top
  rcases hh with ⟨q, km, hkm, hme, hi⟩ | ⟨h2, q0, q, hd, hme, hml, hi⟩
  · refine (cutT_root km t.root (x.1 : Int) (n : Int) en q (by omega) hme ht he (by omega)).mono ?_
    rintro e w1 ⟨k, hk, rfl, e1⟩
    obtain ⟨t', r', i'⟩ := hi k
    have a1 := meld_steps km (rmS (tk s k) (n : Int)) (lcS s (n : Int)) (rcS s (n : Int))
    have a2 := meld_steps_ge km (rmS (tk s k) (n : Int)) (lcS s (n : Int)) (rcS s (n : Int))
    have a3 : (rmS (tk s k) (n : Int)).steps = s.steps + k + 9 := rm_steps _ _
    exact ⟨t', _, by rw [r'], e1, i', by rw [meld_most, rm_most]; rfl, by omega, by omega⟩
  · refine (cutT (bts L.length + 2) (2 * bts L.length + 1) (2 * bts L.length + 1) t.root (x.1 : Int) (n : Int) en (by omega) q0 q hd hme hml (by omega) ht cr he (by omega)).mono ?_
    rintro e w1 ⟨k, hk, rfl, e1⟩
    obtain ⟨t', r', i'⟩ := hi k
    have a1 := meld_steps (2 * bts L.length + 1) (cuS (bts L.length + 2) (2 * bts L.length + 1) s (n : Int) k).2 t.root (cuS (bts L.length + 2) (2 * bts L.length + 1) s (n : Int) k).1
    have a2 := meld_steps_ge (2 * bts L.length + 1) (cuS (bts L.length + 2) (2 * bts L.length + 1) s (n : Int) k).2 t.root (cuS (bts L.length + 2) (2 * bts L.length + 1) s (n : Int) k).1
    have a3 := meld_steps (2 * bts L.length + 1) (rmS (dS (bts L.length + 2) s (n : Int) k) (n : Int)) (lcS (dS (bts L.length + 2) s (n : Int) k) (n : Int)) (rcS (dS (bts L.length + 2) s (n : Int) k) (n : Int))
    have a4 := meld_steps_ge (2 * bts L.length + 1) (rmS (dS (bts L.length + 2) s (n : Int) k) (n : Int)) (lcS (dS (bts L.length + 2) s (n : Int) k) (n : Int)) (rcS (dS (bts L.length + 2) s (n : Int) k) (n : Int))
    have a5 := ds_steps (bts L.length + 2) s (n : Int) k
    have a6 := ds_steps_ge (bts L.length + 2) s (n : Int) k
    have a7 := rm_steps (dS (bts L.length + 2) s (n : Int) k) (n : Int)
    refine ⟨t', _, by rw [r'], e1, i', ?_, ?_, ?_⟩
    · rw [meld_most]; unfold cuS; rw [meld_most, rm_most, ds_most]
    · unfold cuS at a2 ⊢; omega
    · unfold cuS at a1 ⊢; omega
end
end Go.Proofs.YtnkpopeahmjodaaGreat
