/- All nodes of a heap are given back, and then its items: as plain data. -/
import Derived.Test.YteibfnclillnnaaGreatGj
namespace Go.Proofs.YteibfnclillnnaaGreat
open Go.ChangeShapes Go.WideShapes Go.ChangeAt Go.RowKit
open Tr

section
variable {s : St}
theorem gb_view2 {n i : Nat} (ok : Ok s) (ln : LS s n = true) (li : LS s i = true) (h6 : hasS s n 6 = (i : Int)) :
    Ok (gbS s (n : Int)) ∧ (gbS s (n : Int)).back = s.back ++ [n] ∧ (gbS s (n : Int)).pl.length = s.pl.length ∧
    (∀ c, LS (gbS s (n : Int)) c = if c = n then false else LS s c) ∧ (∀ c j, hasS (gbS s (n : Int)) c j = if c = i ∧ j = 9 then -1 else hasS s c j) := by
  unfold gbS
  have c6 : cellS s (n : Int) 6 = (i : Int) := cell_nat (j := 6) ok ln (by decide) h6 li
  rw [c6]
  have s4 := (Sm.tk ok 1).trans (Sm.set (Sm.tk ok 1).ok (i : Int) 9 (-1))
  have v4 : hasS (setS (tk s 1) (i : Int) 9 (-1)) = put (hasS s) i 9 (-1) := set_has (s := tk s 1) (j := 9) li (by decide)
  generalize setS (tk s 1) (i : Int) 9 (-1) = s5 at *
  have ln5 : LS s5 n = true := by rw [s4.ls]; exact ln
  obtain ⟨g1, g2⟩ := give_back ln5
  refine ⟨s4.ok.give, by rw [g1, s4.back], by rw [g2, s4.len], fun c => ?_, fun c j => ?_⟩
  · rw [give_ls ln5, s4.ls]
  · rw [give_has ln5, v4]
    by_cases e : c = i ∧ j = 9
    · rw [if_pos e, e.1, e.2, put_at]
    · rw [if_neg e, put_or (by by_cases z : c = i; · right; exact fun y => e ⟨z, y⟩
                               · left; exact z)]
end
/-- nodes given back, one behind the other -/
def dgS : St → List Nat → St
  | s, [] => s
  | s, n :: r => dgS (gbS s (n : Int)) r
theorem dg_steps : ∀ (D : List Nat) (s : St), (dgS s D).steps = s.steps + 3 * D.length
  | [], s => rfl
  | n :: r, s => by
    show (dgS (gbS s (n : Int)) r).steps = _
    rw [dg_steps r, gb_steps, List.length_cons]; omega
theorem dg_most : ∀ (D : List Nat) (s : St), (dgS s D).most = s.most
  | [], s => rfl
  | n :: r, s => by
    show (dgS (gbS s (n : Int)) r).most = _
    rw [dg_most r, gb_most]
theorem dg_append : ∀ (D : List Nat) (n : Nat) (s : St), dgS s (D ++ [n]) = gbS (dgS s D) (n : Int)
  | [], _, _ => rfl
  | m :: r, n, s => dg_append r n (gbS s (m : Int))
/-- what they are then -/
structure Dgv (f : Nat → Nat) (D : List Nat) (s s' : St) : Prop where
  ok : Ok s'
  gone : ∀ c ∈ D, LS s' c = false
  ls : ∀ c, c ∉ D → LS s' c = LS s c
  free : ∀ n ∈ D, hasS s' (f n) 9 = -1
  rest : ∀ c j, (j ≠ 9 ∨ ∀ n ∈ D, f n ≠ c) → hasS s' c j = hasS s c j
  num : s'.back.length = s.back.length + D.length
  len : s'.pl.length = s.pl.length
theorem dg_view (f : Nat → Nat) : ∀ (D : List Nat) (s : St), Ok s → D.Nodup → (∀ n ∈ D, LS s n = true ∧ LS s (f n) = true ∧ hasS s n 6 = (f n : Int)) → (∀ n ∈ D, ∀ m ∈ D, f m ≠ n) → Dgv f D s (dgS s D)
  | [], s, ok, _, _, _ => ⟨ok, fun c h => (by cases h), fun _ _ => rfl, fun n h => (by cases h), fun _ _ _ => rfl, rfl, rfl⟩
  | n :: r, s, ok, hd, hl, hf => by
    obtain ⟨l1, l2, l3⟩ := hl n (by simp)
    obtain ⟨v1, v2, v3, v4, v5⟩ := gb_view2 ok l1 l2 l3
    rw [List.nodup_cons] at hd
    have ih := dg_view f r (gbS s (n : Int)) v1 hd.2 (fun m hm => by
      obtain ⟨a1, a2, a3⟩ := hl m (by simp [hm])
      have hmn : m ≠ n := fun e => hd.1 (e ▸ hm)
      refine ⟨by rw [v4, if_neg hmn]; exact a1, by rw [v4, if_neg (hf n (by simp) m (by simp [hm]))]; exact a2, by rw [v5, if_neg (by omega)]; exact a3⟩) (fun a ha b hb => hf a (by simp [ha]) b (by simp [hb]))
    refine ⟨ih.ok, fun c hc => ?_, fun c hc => ?_, fun m hm => ?_, fun c j h => ?_, ?_, ?_⟩
    · rw [List.mem_cons] at hc
      by_cases q : c ∈ r
      · exact ih.gone c q
      · rcases hc with rfl | hc
        · show LS (dgS (gbS s (c : Int)) r) c = false
          rw [ih.ls c q, v4, if_pos rfl]
        · exact absurd hc q
    · rw [List.mem_cons, not_or] at hc
      show LS (dgS (gbS s (n : Int)) r) c = LS s c
      rw [ih.ls c hc.2, v4, if_neg hc.1]
    · rw [List.mem_cons] at hm
      by_cases q : ∃ k ∈ r, f k = f m
      · obtain ⟨k, hk, e⟩ := q
        rw [← e]; exact ih.free k hk
      · rcases hm with rfl | hm
        · show hasS (dgS (gbS s (m : Int)) r) (f m) 9 = -1
          rw [ih.rest (f m) 9 (Or.inr fun k hk e => q ⟨k, hk, e⟩), v5, if_pos ⟨rfl, rfl⟩]
        · exact absurd ⟨m, hm, rfl⟩ q
    · show hasS (dgS (gbS s (n : Int)) r) c j = hasS s c j
      rw [ih.rest c j (h.imp id fun z k hk => z k (by simp [hk])), v5, if_neg]
      rintro ⟨e1, e2⟩
      rcases h with h | h
      · exact h e2
      · exact h n (by simp) e1.symm
    · show (dgS (gbS s (n : Int)) r).back.length = _
      rw [ih.num, v2]; simp; omega
    · show (dgS (gbS s (n : Int)) r).pl.length = _
      rw [ih.len, v3]
/-- items given back, one behind the other, each looked at first -/
def giS : St → List Nat → St
  | s, [] => s
  | s, i :: r => giS (giveS (tk s 1) (i : Int)) r
theorem gi_steps : ∀ (D : List Nat) (s : St), (giS s D).steps = s.steps + 2 * D.length
  | [], s => rfl
  | n :: r, s => by
    show (giS (giveS (tk s 1) (n : Int)) r).steps = _
    rw [gi_steps r, give_steps, List.length_cons]; show s.steps + 1 + 1 + _ = _; omega
theorem gi_most : ∀ (D : List Nat) (s : St), (giS s D).most = s.most
  | [], s => rfl
  | n :: r, s => by
    show (giS (giveS (tk s 1) (n : Int)) r).most = _
    rw [gi_most r, give_most]; rfl
theorem gi_append : ∀ (D : List Nat) (n : Nat) (s : St), giS s (D ++ [n]) = giveS (tk (giS s D) 1) (n : Int)
  | [], _, _ => rfl
  | m :: r, n, s => gi_append r n (giveS (tk s 1) (m : Int))
structure Gi (D : List Nat) (s s' : St) : Prop where
  ok : Ok s'
  ls : ∀ c, c ∉ D → LS s' c = LS s c
  rest : ∀ c j, hasS s' c j = hasS s c j
  num : s'.back.length = s.back.length + D.length
  len : s'.pl.length = s.pl.length
theorem gi_view : ∀ (D : List Nat) (s : St), Ok s → D.Nodup → (∀ n ∈ D, LS s n = true) → Gi D s (giS s D)
  | [], s, ok, _, _ => ⟨ok, fun _ _ => rfl, fun _ _ => rfl, rfl, rfl⟩
  | n :: r, s, ok, hd, hl => by
    have l1 : LS (tk s 1) n = true := hl n (by simp)
    have ok1 := (Sm.tk ok 1).ok
    have e1 := give_ls l1
    have e2 := give_has l1
    obtain ⟨e3, e4⟩ := give_back l1
    rw [List.nodup_cons] at hd
    have ih := gi_view r (giveS (tk s 1) (n : Int)) ok1.give hd.2 (fun m hm => by
      have hmn : m ≠ n := fun e => hd.1 (e ▸ hm)
      rw [e1]; simp only; rw [if_neg hmn]; exact hl m (by simp [hm]))
    refine ⟨ih.ok, fun c hc => ?_, fun c j => ?_, ?_, ?_⟩
    · rw [List.mem_cons, not_or] at hc
      show LS (giS (giveS (tk s 1) (n : Int)) r) c = _
      rw [ih.ls c hc.2, e1]; simp only; rw [if_neg hc.1]; rfl
    · show hasS (giS (giveS (tk s 1) (n : Int)) r) c j = _
      rw [ih.rest, e2]; rfl
    · show (giS (giveS (tk s 1) (n : Int)) r).back.length = _
      rw [ih.num, e3, List.length_append]; show s.back.length + 1 + _ = _; simp; omega
    · show (giS (giveS (tk s 1) (n : Int)) r).pl.length = _
      rw [ih.len, e4]; rfl
end Go.Proofs.YteibfnclillnnaaGreat
