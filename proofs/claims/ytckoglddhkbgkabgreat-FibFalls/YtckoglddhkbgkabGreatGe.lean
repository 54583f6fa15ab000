/- Several texts in one. -/
import Derived.Test.YtckoglddhkbgkabGreatGd
/- A Fibonacci heap as plain data: its nodes, what cells have; two trees made one. -/
namespace Go.Proofs.YtckoglddhkbgkabGreat
open Go.ChangeShapes Go.WideShapes Go.ChangeAt Go.RowKit
open Tr

/-- a node's item -/
def itF (f : Nat → Nat → Int) (n : Nat) : Nat := (f n 6).toNat
/-- the nodes with this Up, as a ring -/
structure Kd (f : Nat → Nat → Int) (H : List Nat) (p : Int) (C : List Nat) : Prop where
  rg : Ring f C
  nd : C.Nodup
  mem : ∀ c, c ∈ C ↔ c ∈ H ∧ f c 0 = p
theorem Kd.rot {f : Nat → Nat → Int} {H : List Nat} {p : Int} {x y : List Nat} (h : Kd f H p (x ++ y)) : Kd f H p (y ++ x) :=
  ⟨ring_rot h.rg, List.perm_append_comm.nodup_iff.1 h.nd, fun c => by rw [← h.mem c, List.mem_append, List.mem_append, or_comm]⟩
/-- a heap: its nodes H, the top ones T -/
structure Fh (L : Nat → Bool) (f : Nat → Nat → Int) (H T : List Nat) : Prop where
  nd : H.Nodup
  ln : ∀ n ∈ H, L n = true
  it : ∀ n ∈ H, f n 6 = (itF f n : Int) ∧ L (itF f n) = true ∧ f (itF f n) 9 = (n : Int)
  sep : ∀ n ∈ H, ∀ m ∈ H, itF f n ≠ m
  up : ∀ n ∈ H, f n 0 = -1 ∨ ∃ p ∈ H, f n 0 = (p : Int)
  mrk : ∀ n ∈ H, f n 5 = 0 ∨ f n 5 = 1
  top : Kd f H (-1) T
  ch : ∀ p ∈ H, ∃ C, Kd f H (p : Int) C ∧ f p 1 = hdL C ∧ f p 4 = (C.length : Int)
  ht : ∃ ht : Nat → Nat, ∀ c ∈ H, ∀ p : Nat, f c 0 = (p : Int) → ht c < ht p
/-- no item is before the one above it -/
def Od (f : Nat → Nat → Int) (H : List Nat) : Prop := ∀ c ∈ H, ∀ p : Nat, f c 0 = (p : Int) → befF f (itF f c) (itF f p) = false
/-- how many children may have how small a Rank -/
def Fb (f : Nat → Nat → Int) (H : List Nat) : Prop := ∀ p ∈ H, ∀ C : List Nat, C.Nodup → (∀ c, c ∈ C ↔ c ∈ H ∧ f c 0 = (p : Int)) → ∀ j : Nat, C.countP (fun c => decide (f c 4 + f c 5 < (j : Int))) ≤ j

theorem Fh.rot {L : Nat → Bool} {f : Nat → Nat → Int} {H x y : List Nat} (h : Fh L f H (x ++ y)) : Fh L f H (y ++ x) := ⟨h.nd, h.ln, h.it, h.sep, h.up, h.mrk, h.top.rot, h.ch, h.ht⟩
/-- a list turned by one -/
def rot1 : List Nat → List Nat
  | [] => []
  | c :: x => x ++ [c]
theorem rot1_perm : ∀ C : List Nat, (rot1 C).Perm C
  | [] => .refl _
  | c :: x => List.perm_append_comm (l₁ := x) (l₂ := [c])
/-- what hang does: m is a child of n -/
structure Hng (f g : Nat → Nat → Int) (n m : Nat) (T C : List Nat) : Prop where
  e0 : ∀ a, g a 0 = if a = m then (n : Int) else f a 0
  e1 : ∀ a, g a 1 = if a = n then (m : Int) else f a 1
  e4 : ∀ a, g a 4 = if a = n then (C.length : Int) + 1 else f a 4
  e5 : ∀ a, g a 5 = if a = m then 0 else f a 5
  e6 : ∀ a j, 6 ≤ j → g a j = f a j
  r1 : Ring g T
  r2 : Ring g (m :: rot1 C)
  out : ∀ a, a ∉ (m :: T) ++ C → g a 2 = f a 2 ∧ g a 3 = f a 3
section
variable {L : Nat → Bool} {f g : Nat → Nat → Int} {H T C : List Nat} {n m : Nat}
theorem Hng.it (k : Hng f g n m T C) : itF g = itF f := by funext a; unfold itF; rw [k.e6 a 6 (by decide)]
theorem Fh.hang (h : Fh L f H (m :: T)) (hn : n ∈ T) (hC : Kd f H (n : Int) C) (k : Hng f g n m T C) : Fh L g H T := by
  have tn := h.top.nd
  rw [List.nodup_cons] at tn
  have hmn : n ≠ m := fun e => tn.1 (e ▸ hn)
  obtain ⟨mH, m0⟩ := (h.top.mem m).1 (by simp)
  obtain ⟨nH, n0⟩ := (h.top.mem n).1 (by simp [hn])
  have hmC : m ∉ C := fun q => by have := ((hC.mem m).1 q).2; omega
  refine ⟨h.nd, h.ln, fun a ha => ?_, ?_, fun a ha => ?_, fun a ha => ?_, ⟨k.r1, tn.2, fun c => ?_⟩, fun p hp => ?_, ?_⟩
  · rw [k.it, k.e6 a 6 (by decide), k.e6 _ 9 (by decide)]; exact h.it a ha
  · rw [k.it]; exact h.sep
  · rw [k.e0]
    by_cases e : a = m
    · rw [if_pos e]; exact Or.inr ⟨n, nH, rfl⟩
    · rw [if_neg e]; exact h.up a ha
  · rw [k.e5]
    by_cases e : a = m
    · rw [if_pos e]; exact Or.inl rfl
    · rw [if_neg e]; exact h.mrk a ha
  · rw [k.e0]
    by_cases e : c = m
    · subst e
      rw [if_pos rfl]
      exact ⟨fun q => absurd q tn.1, fun q => by omega⟩
    · rw [if_neg e, ← h.top.mem c, List.mem_cons]
      exact ⟨Or.inr, fun q => q.resolve_left e⟩
  · by_cases e : p = n
    · subst e
      refine ⟨m :: rot1 C, ⟨k.r2, ?_, fun c => ?_⟩, ?_, ?_⟩
      · rw [List.nodup_cons]
        exact ⟨fun q => hmC ((rot1_perm C).mem_iff.1 q), (rot1_perm C).nodup_iff.2 hC.nd⟩
      · rw [List.mem_cons, (rot1_perm C).mem_iff, k.e0]
        by_cases e : c = m
        · subst e; rw [if_pos rfl]; exact ⟨fun _ => ⟨mH, rfl⟩, fun _ => Or.inl rfl⟩
        · rw [if_neg e, ← hC.mem c]
          exact ⟨fun q => q.resolve_left e, Or.inr⟩
      · rw [k.e1, if_pos rfl]; rfl
      · rw [k.e4, if_pos rfl, List.length_cons, (rot1_perm C).length_eq]; omega
    · obtain ⟨D, d1, d2, d3⟩ := h.ch p hp
      refine ⟨D, ⟨ring_like d1.rg fun c hc => ?_, d1.nd, fun c => ?_⟩, by rw [k.e1, if_neg e]; exact d2, by rw [k.e4, if_neg e]; exact d3⟩
      · have c0 := ((d1.mem c).1 hc).2
        have := k.out c (fun q => by
          rcases List.mem_append.1 q with q | q
          · have := ((h.top.mem c).1 q).2; omega
          · have := ((hC.mem c).1 q).2; omega)
        exact ⟨this.2, this.1⟩
      · rw [d1.mem c, k.e0]
        by_cases q : c = m
        · subst q; rw [if_pos rfl]; exact ⟨fun z => by omega, fun z => by omega⟩
        · rw [if_neg q]
  · obtain ⟨ht, hh⟩ := h.ht
    refine ⟨fun x => if x = n then max (ht n) (ht m + 1) else ht x, fun c hc p hp => ?_⟩
    rw [k.e0] at hp
    by_cases e : c = m
    · subst e
      rw [if_pos rfl] at hp
      have hp : p = n := by omega
      subst hp
      show (if c = p then _ else ht c) < if p = p then _ else _
      rw [if_neg (fun e : c = p => hmn e.symm), if_pos rfl]; omega
    · rw [if_neg e] at hp
      have hcn : c ≠ n := fun e => by subst e; omega
      have := hh c hc p hp
      show (if c = n then _ else ht c) < if p = n then _ else _
      rw [if_neg hcn]
      by_cases e2 : p = n
      · rw [if_pos e2]; subst e2; omega
      · rw [if_neg e2]; exact this
theorem Od.hang (h : Od f H) (k : Hng f g n m T C) (ho : befF f (itF f m) (itF f n) = false) : Od g H := by
  have e : befF g = befF f := by funext a c; unfold befF; rw [k.e6 a 7 (by decide), k.e6 a 8 (by decide), k.e6 c 7 (by decide), k.e6 c 8 (by decide)]
  intro c hc p hp
  rw [k.e0] at hp
  rw [e, k.it]
  by_cases q : c = m
  · subst q
    rw [if_pos rfl] at hp
    have hp : p = n := by omega
    subst hp; exact ho
  · rw [if_neg q] at hp; exact h c hc p hp
theorem count_le {p : Nat → Bool} (l : List Nat) : l.countP p ≤ l.length := List.countP_le_length
theorem Fb.hang (h : Fh L f H (m :: T)) (b : Fb f H) (hn : n ∈ T) (hC : Kd f H (n : Int) C) (hr : f m 4 = (C.length : Int)) (k : Hng f g n m T C) : Fb g H := by
  have tn := h.top.nd
  rw [List.nodup_cons] at tn
  have hmn : n ≠ m := fun e => tn.1 (e ▸ hn)
  obtain ⟨mH, m0⟩ := (h.top.mem m).1 (by simp)
  obtain ⟨nH, n0⟩ := (h.top.mem n).1 (by simp [hn])
  intro p hp D dn dm j
  have same : ∀ c ∈ D, c ≠ m → c ≠ n → g c 4 + g c 5 = f c 4 + f c 5 := fun c _ h1 h2 => by rw [k.e4, if_neg h2, k.e5, if_neg h1]
  by_cases e : p = n
  · subst e
    have hmD : m ∈ D := (dm m).2 ⟨mH, by rw [k.e0, if_pos rfl]⟩
    have hD : ∀ c, c ∈ D.erase m ↔ c ∈ H ∧ f c 0 = (p : Int) := fun c => by
      rw [dn.mem_erase_iff, dm c, k.e0]
      by_cases q : c = m
      · subst q; exact ⟨fun z => absurd rfl z.1, fun z => by omega⟩
      · rw [if_neg q]; exact ⟨fun z => z.2, fun z => ⟨q, z⟩⟩
    have en : (D.erase m).Nodup := dn.erase m
    have h1 := b p hp (D.erase m) en hD j
    have pm : D.Perm (m :: D.erase m) := List.perm_cons_erase hmD
    have pc : (D.erase m).Perm C := (List.perm_ext_iff_of_nodup en hC.nd).2 fun c => by rw [hD c, hC.mem c]
    have h2 : (D.erase m).countP (fun c => decide (g c 4 + g c 5 < (j : Int))) = (D.erase m).countP (fun c => decide (f c 4 + f c 5 < (j : Int))) := List.countP_congr fun c hc => by
      have h3 := (hD c).1 hc
      rw [same c (List.mem_of_mem_erase hc) (fun q => by subst q; omega) (fun q => by subst q; omega)]
    rw [pm.countP_eq, List.countP_cons, h2, k.e4, if_neg hmn.symm, k.e5, if_pos rfl, hr]
    have h4 := pc.length_eq
    have h5 : (D.erase m).countP (fun c => decide (f c 4 + f c 5 < (j : Int))) ≤ (D.erase m).length := List.countP_le_length
    by_cases q : (C.length : Int) + 0 < (j : Int)
    · rw [if_pos (by simpa using q)]; omega
    · rw [if_neg (by simpa using q)]; omega
  · have hD : ∀ c, c ∈ D ↔ c ∈ H ∧ f c 0 = (p : Int) := fun c => by
      rw [dm c, k.e0]
      by_cases q : c = m
      · subst q; rw [if_pos rfl]; exact ⟨fun z => by omega, fun z => by omega⟩
      · rw [if_neg q]
    have h1 := b p hp D dn hD j
    rw [show D.countP (fun c => decide (g c 4 + g c 5 < (j : Int))) = D.countP (fun c => decide (f c 4 + f c 5 < (j : Int))) from List.countP_congr fun c hc => by
      have h3 := (hD c).1 hc
      rw [same c hc (fun q => by subst q; omega) (fun q => by subst q; omega)]]
    exact h1
end
end Go.Proofs.YtckoglddhkbgkabGreat

/- The walks of hang and link. -/
namespace Go.Proofs.YtckoglddhkbgkabGreat
open Go.ChangeShapes Go.WideShapes Go.ChangeAt Go.RowKit
open Tr

/-- the end of hang: n's first child is m -/
def tlS (s : St) (n m : Int) (k : Int) : St := setS (setS (setS (tk (setS s n 1 m) 1) n 4 (k + 1)) m 0 n) m 5 0
theorem tl_steps (s : St) (n m k : Int) : (tlS s n m k).steps = s.steps + 5 := by
  unfold tlS; rw [set_steps, set_steps, set_steps]; show (setS s n 1 m).steps + 1 + 1 + 1 + 1 = _; rw [set_steps]
theorem tl_sm {s : St} (ok : Ok s) (n m k : Int) : Sm s (tlS s n m k) := by
  unfold tlS
  have k1 := Sm.set ok n 1 m
  have k2 := k1.trans (Sm.tk k1.ok 1)
  have k3 := k2.trans (Sm.set k2.ok n 4 (k + 1))
  have k4 := k3.trans (Sm.set k3.ok m 0 n)
  exact k4.trans (Sm.set k4.ok m 5 0)
theorem tl_has {s : St} {n m : Nat} {k : Int} (ln : LS s n = true) (lm : LS s m = true) : hasS (tlS s (n : Int) (m : Int) k) = put (put (put (put (hasS s) n 1 (m : Int)) n 4 (k + 1)) m 0 (n : Int)) m 5 0 := by
  unfold tlS
  have h1 : hasS (setS s (n : Int) 1 (m : Int)) = put (hasS s) n 1 (m : Int) := set_has (j := 1) ln (by decide)
  have h2 := set_has (s := tk (setS s (n : Int) 1 (m : Int)) 1) (c := n) (j := 4) (v := k + 1) (by show LS (setS s _ _ _) n = true; rw [set_ls]; exact ln) (by decide)
  have h3 := set_has (s := setS (tk (setS s (n : Int) 1 (m : Int)) 1) (n : Int) 4 (k + 1)) (c := m) (j := 0) (v := (n : Int)) (by rw [set_ls]; show LS (setS s _ _ _) m = true; rw [set_ls]; exact lm) (by decide)
  have h4 := set_has (s := setS (setS (tk (setS s (n : Int) 1 (m : Int)) 1) (n : Int) 4 (k + 1)) (m : Int) 0 (n : Int)) (c := m) (j := 5) (v := 0) (by rw [set_ls, set_ls]; show LS (setS s _ _ _) m = true; rw [set_ls]; exact lm) (by decide)
  have h2' : hasS (setS (tk (setS s (n : Int) 1 (m : Int)) 1) (n : Int) 4 (k + 1)) = put (put (hasS s) n 1 (m : Int)) n 4 (k + 1) := by rw [← h1]; exact h2
  have h3' : hasS (setS (setS (tk (setS s (n : Int) 1 (m : Int)) 1) (n : Int) 4 (k + 1)) (m : Int) 0 (n : Int)) = put (put (put (hasS s) n 1 (m : Int)) n 4 (k + 1)) m 0 (n : Int) := by rw [← h2']; exact h3
  rw [← h3']; exact h4
theorem tl_hng {f f2 : Nat → Nat → Int} {n m : Nat} {T C : List Nat} (l : Lnk f f2 ((m :: T) ++ C)) (r1 : Ring f2 T) (r2 : Ring f2 (m :: rot1 C)) :
    Hng f (put (put (put (put f2 n 1 (m : Int)) n 4 ((C.length : Int) + 1)) m 0 (n : Int)) m 5 0) n m T C := by
  have o : ∀ a j, j = 2 ∨ j = 3 → put (put (put (put f2 n 1 (m : Int)) n 4 ((C.length : Int) + 1)) m 0 (n : Int)) m 5 0 a j = f2 a j := fun a j hj => by
    rw [put_nj (by omega), put_nj (by omega), put_nj (by omega), put_nj (by omega)]
  refine ⟨fun a => ?_, fun a => ?_, fun a => ?_, fun a => ?_, fun a j hj => ?_, ring_like r1 fun c _ => ⟨o c 3 (Or.inr rfl), o c 2 (Or.inl rfl)⟩, ring_like r2 fun c _ => ⟨o c 3 (Or.inr rfl), o c 2 (Or.inl rfl)⟩, fun a ha => ⟨(o a 2 (Or.inl rfl)).trans (l.out a ha).1, (o a 3 (Or.inr rfl)).trans (l.out a ha).2⟩⟩
  · rw [put_nj (by decide)]
    by_cases e : a = m
    · rw [if_pos e, e, put_at]
    · rw [if_neg e, put_ne e, put_nj (by decide), put_nj (by decide)]; exact l.oth a 0 (by decide) (by decide)
  · rw [put_nj (by decide), put_nj (by decide), put_nj (by decide)]
    by_cases e : a = n
    · rw [if_pos e, e, put_at]
    · rw [if_neg e, put_ne e]; exact l.oth a 1 (by decide) (by decide)
  · rw [put_nj (by decide), put_nj (by decide)]
    by_cases e : a = n
    · rw [if_pos e, e, put_at]
    · rw [if_neg e, put_ne e, put_nj (by decide)]; exact l.oth a 4 (by decide) (by decide)
  · by_cases e : a = m
    · rw [if_pos e, e, put_at]
    · rw [if_neg e, put_ne e, put_nj (by decide), put_nj (by decide), put_nj (by decide)]; exact l.oth a 5 (by decide) (by decide)
  · rw [put_nj (by omega), put_nj (by omega), put_nj (by omega), put_nj (by omega)]; exact l.oth a j (by omega) (by omega)

section
variable {F : Nat → Prop} {w0 w w' : World} {pa pm : Nat} {s : St}
set_option maxHeartbeats 2000000 in
theorem hangT (n m : Nat) (T C : List Nat) (hT : Ring (hasS s) (m :: T)) (hTn : (m :: T).Nodup) (hTl : ∀ a ∈ m :: T, LS s a = true) (hC : Ring (hasS s) C) (hCn : C.Nodup) (hCl : ∀ a ∈ C, LS s a = true) (hd : ∀ a ∈ C, a ∉ m :: T) (hnm : n ≠ m) (ln : LS s n = true)
    (h1 : hasS s n 1 = hdL C) (h4 : hasS s n 4 = (C.length : Int)) (hlen : C.length ≤ 40000) (ok : Ok s) (h : Ex F w0 w pa pm s) (hs : s.steps ≤ 99999000) :
    Calls Tryz.prog 108 #[.pointer (some ⟨pa, 0, none⟩), .int .i64 (n : Int), .int .i64 (m : Int)] w fun e w' =>
      e = .returned (.tuple #[]) ∧ ∃ s', Ex F w0 w' pa pm s' ∧ Sm s s' ∧ s.steps ≤ s'.steps ∧ s'.steps ≤ s.steps + 22 ∧ Hng (hasS s) (hasS s') n m T C := by
  have A := hid (routT m T hT hTn hTl ok h (by omega))
  have lm : LS s m = true := hTl m (by simp)
  have HNM := hid hnm
  have H4 := hid h4
  have OK := hid ok
  have TL := hid (fun (s2 : St) (w2 : World) (e2 : Ex F w0 w2 pa pm s2) (l2 : s2.steps ≤ 99999900) (m2 : Sm s s2) (g4 : hasS s2 n 4 = (C.length : Int)) => show
    ((Calls Tryz.prog 39 #[.pointer (some ⟨pa, 0, none⟩), .int .i64 (n : Int), .int .i64 1, .int .i64 (m : Int)] w2 fun e w' => e = .returned (.bool (mayS s2 (n : Int) 1)) ∧ Ex F w0 w' pa pm (setS s2 (n : Int) 1 (m : Int))) ∧
     (∀ w3, Ex F w0 w3 pa pm (setS s2 (n : Int) 1 (m : Int)) → Calls Tryz.prog 45 #[.pointer (some ⟨pa, 0, none⟩), .int .i64 (n : Int), .int .i64 4] w3 fun e w' => e = .returned (.int .i64 (C.length : Int)) ∧ Ex F w0 w' pa pm (tk (setS s2 (n : Int) 1 (m : Int)) 1)) ∧
     (∀ w3, Ex F w0 w3 pa pm (tk (setS s2 (n : Int) 1 (m : Int)) 1) → Calls Tryz.prog 39 #[.pointer (some ⟨pa, 0, none⟩), .int .i64 (n : Int), .int .i64 4, .int .i64 ((C.length : Int) + 1)] w3 fun e w' => ∃ bb, e = .returned (.bool bb) ∧ Ex F w0 w' pa pm (setS (tk (setS s2 (n : Int) 1 (m : Int)) 1) (n : Int) 4 ((C.length : Int) + 1))) ∧
     (∀ w3, Ex F w0 w3 pa pm (setS (tk (setS s2 (n : Int) 1 (m : Int)) 1) (n : Int) 4 ((C.length : Int) + 1)) → Calls Tryz.prog 39 #[.pointer (some ⟨pa, 0, none⟩), .int .i64 (m : Int), .int .i64 0, .int .i64 (n : Int)] w3 fun e w' => ∃ bb, e = .returned (.bool bb) ∧ Ex F w0 w' pa pm (setS (setS (tk (setS s2 (n : Int) 1 (m : Int)) 1) (n : Int) 4 ((C.length : Int) + 1)) (m : Int) 0 (n : Int))) ∧
     (∀ w3, Ex F w0 w3 pa pm (setS (setS (tk (setS s2 (n : Int) 1 (m : Int)) 1) (n : Int) 4 ((C.length : Int) + 1)) (m : Int) 0 (n : Int)) → Calls Tryz.prog 39 #[.pointer (some ⟨pa, 0, none⟩), .int .i64 (m : Int), .int .i64 5, .int .i64 0] w3 fun e w' => ∃ bb, e = .returned (.bool bb) ∧ Ex F w0 w' pa pm (tlS s2 (n : Int) (m : Int) (C.length : Int)))) from by
      have lns : LS s2 n = true := by rw [m2.ls]; exact ln
      refine ⟨setT (n : Int) 1 (m : Int) e2 (by omega), fun w3 e3 => ?_, fun w3 e3 => ?_, fun w3 e3 => ?_, fun w3 e3 => ?_⟩
      · have G := getT (n : Int) 4 e3 (by rw [set_steps]; omega)
        rw [show getS (setS s2 (n : Int) 1 (m : Int)) (n : Int) 4 = (C.length : Int) from (get_nat (s := setS s2 (n : Int) 1 (m : Int)) (c := n) (j := 4) (by rw [set_ls]; exact lns) (by decide)).trans (by rw [show hasS (setS s2 (n : Int) 1 (m : Int)) = put (hasS s2) n 1 (m : Int) from set_has (j := 1) lns (by decide), put_nj (by decide)]; exact g4)] at G
        exact G
      · exact (setT (n : Int) 4 _ e3 (by show (setS s2 _ _ _).steps + 1 ≤ _; rw [set_steps]; omega)).mono fun e w' q => ⟨_, q.1, q.2⟩
      · exact (setT (m : Int) 0 _ e3 (by rw [set_steps]; show (setS s2 _ _ _).steps + 1 + 1 ≤ _; rw [set_steps]; omega)).mono fun e w' q => ⟨_, q.1, q.2⟩
      · exact (setT (m : Int) 5 _ e3 (by rw [set_steps, set_steps]; show (setS s2 _ _ _).steps + 1 + 1 + 1 ≤ _; rw [set_steps]; omega)).mono fun e w' q => ⟨_, q.1, q.2⟩)
  have FIN := hid (fun (s2 : St) (m2 : Sm s s2) (l : Lnk (hasS s) (hasS s2) ((m :: T) ++ C)) (r1 : Ring (hasS s2) T) (r2 : Ring (hasS s2) (m :: rot1 C)) => show Sm s (tlS s2 (n : Int) (m : Int) (C.length : Int)) ∧ Hng (hasS s) (hasS (tlS s2 (n : Int) (m : Int) (C.length : Int))) n m T C from
    ⟨m2.trans (tl_sm m2.ok _ _ _), by rw [tl_has (by rw [m2.ls]; exact ln) (by rw [m2.ls]; exact lm)]; exact tl_hng l r1 r2⟩)
  have hw1 : IntKind.i64.wrap ((C.length : Int) + 1) = (C.length : Int) + 1 := IntWalk.i64_in _ (by omega)
  have LN := hid ln
  have H1 := hid h1
  have HD := hid hd
  have HCR := hid hC
  have HCN := hid hCn
  have HCL := hid hCl
  have LM := hid lm
  have R1n := hid (List.nodup_cons.1 hTn).1
  clear hT hTn hTl hnm ln h1 h4 ok h lm hd hC hCn hCl
  cases C with
  | nil =>
    rw [show ((([] : List Nat).length : Nat) : Int) = 0 from rfl] at hw1 TL
    go_enter Tryz.func108, Tryz.ntmps108
    go_wp2_with fail
    refine A.out.mono ?_
    rintro e w1 ⟨rfl, s1, e1, m1, st1, r1, r2, l1⟩
    have ST := hid st1
    have C1 := hid (cellT (n : Int) 1 e1 (by omega))
    rw [show cellS s1 (n : Int) 1 = -1 from cell_neg (j := 1) (by rw [m1.ls]; exact LN.out) (by decide) (by rw [l1.oth n 1 (by decide) (by decide)]; exact H1.out)] at C1
    obtain ⟨p1, p2⟩ := FIN.out (tk s1 1) (m1.trans (Sm.tk m1.ok 1)) (l1.mono (by simp)) r1 r2
    have P1 := hid p1
    have P2 := hid p2
    have G4 := hid (show hasS s1 n 4 = 0 by rw [l1.oth n 4 (by decide) (by decide)]; exact H4.out)
    have M1 := hid m1
    clear e1 m1 st1 r1 r2 l1 A FIN p1 p2
    generalize hdL T = r0
    go_wp2_with fail
    refine C1.out.mono ?_
    rintro e w2 ⟨rfl, e2⟩
    obtain ⟨q1, q2, q3, q4, q5⟩ := TL.out (tk s1 1) w2 e2 (by show s1.steps + 1 ≤ _; have := ST.out; omega) (M1.out.trans (Sm.tk M1.out.ok 1)) G4.out
    have Q1 := hid q1
    have Q2 := hid q2
    have Q3 := hid q3
    have Q4 := hid q4
    have Q5 := hid q5
    clear q1 q2 q3 q4 q5
    go_wp2_with fail
    refine Q1.out.mono ?_
    rintro e wa ⟨rfl, ea⟩
    have B2 := hid (Q2.out wa ea)
    clear Q1 Q2 ea
    go_wp2_with fail
    refine B2.out.mono ?_
    rintro e wb ⟨rfl, eb⟩
    have B3 := hid (Q3.out wb eb)
    clear B2 Q3 eb
    go_wp2_with fail
    refine B3.out.mono ?_
    rintro e wc ⟨bb, rfl, ec⟩
    have B4 := hid (Q4.out wc ec)
    clear B3 Q4 ec
    go_wp2_with fail
    refine B4.out.mono ?_
    rintro e wd ⟨bb2, rfl, ed⟩
    have B5 := hid (Q5.out wd ed)
    clear B4 Q5 ed
    go_wp2_with fail
    refine B5.out.mono ?_
    rintro e we ⟨bb3, rfl, ee⟩
    have E5 := hid ee
    clear B5 ee
    go_wp2
    go_end0
    exact ⟨rfl, _, E5.out, P1.out, by rw [tl_steps]; show _ ≤ s1.steps + 1 + 5; have := ST.out; omega, by rw [tl_steps]; show s1.steps + 1 + 5 ≤ _; have := ST.out; omega, P2.out⟩
  | cons c x =>
    obtain ⟨len, hlen'⟩ : ∃ len, len = (c :: x).length := ⟨_, rfl⟩
    rw [← hlen'] at hlen hw1 TL FIN H4
    have HLEN := hid hlen'
    clear hlen'
    go_enter Tryz.func108, Tryz.ntmps108
    go_wp2_with fail
    refine A.out.mono ?_
    rintro e w1 ⟨rfl, s1, e1, m1, st1, r1, r2, l1⟩
    have ST := hid st1
    have lc1 : LS s1 c = true := by rw [m1.ls]; exact HCL.out c (by simp)
    have C1 := hid (cellT (n : Int) 1 e1 (by omega))
    rw [show cellS s1 (n : Int) 1 = (c : Int) from cell_nat (j := 1) m1.ok (by rw [m1.ls]; exact LN.out) (by decide) (by rw [l1.oth n 1 (by decide) (by decide)]; exact H1.out) lc1] at C1
    have rc : Ring (hasS s1) (c :: x) := l1.ring HCR.out HD.out
    have J := hid (fun w2 (e2 : Ex F w0 w2 pa pm (tk s1 1)) => rjoinT (s := tk s1 1) c x m [] rc r2 (by
      rw [List.nodup_append]
      exact ⟨HCN.out, by simp, fun a ha b hb e => by simp at hb; subst hb; exact HD.out a ha (by simp [e])⟩) (fun a ha => by
      show LS s1 a = true
      rw [m1.ls]
      rcases List.mem_append.1 ha with q | q
      · exact HCL.out a q
      · simp at q; rw [q]; exact LM.out) (Sm.tk m1.ok 1).ok e2 (by show s1.steps + 1 ≤ _; omega))
    have M1 := hid m1
    have L1 := hid l1
    have R1 := hid r1
    have hc1 : ((c : Int) != -1) = true := by simp
    clear e1 m1 st1 r1 r2 l1 A lc1 rc
    generalize hdL T = r0
    go_wp2_with fail
    refine C1.out.mono ?_
    rintro e w2 ⟨rfl, e2⟩
    have K := hid (J.out w2 e2)
    clear J C1 e2
    go_wp2_with fail
    refine K.out.mono ?_
    rintro e w3 ⟨rfl, s2, e3, m2, st2, rj, lj⟩
    have ST2 := hid (show s2.steps = s1.steps + 1 + 8 from st2)
    have m02 := (M1.out.trans (Sm.tk M1.out.ok 1)).trans m2
    have lj' : Lnk (hasS s1) (hasS s2) ((c :: x) ++ [m]) := lj
    have l02 : Lnk (hasS s) (hasS s2) ((m :: T) ++ (c :: x)) := (L1.out.mono fun a ha => List.mem_append_left _ ha).trans (lj'.mono fun a ha => by
      rcases List.mem_append.1 ha with q | q
      · exact List.mem_append_right _ q
      · simp at q; rw [q]; simp)
    obtain ⟨p1, p2⟩ := FIN.out s2 m02 l02 (lj'.ring R1.out fun a ha q => by
      rcases List.mem_append.1 q with q | q
      · exact HD.out a q (List.mem_cons_of_mem _ ha)
      · simp at q
        subst q
        exact R1n.out ha) (ring_rot (x := [c]) (y := m :: x) rj)
    have P1 := hid p1
    have P2 := hid p2
    obtain ⟨q1, q2, q3, q4, q5⟩ := TL.out s2 w3 e3 (by have := ST2.out; have := ST.out; omega) m02 (by rw [l02.oth n 4 (by decide) (by decide)]; exact H4.out)
    clear m02 lj' l02 p1 p2 K m2 st2 rj lj e3
    have Q1 := hid q1
    have Q2 := hid q2
    have Q3 := hid q3
    have Q4 := hid q4
    have Q5 := hid q5
    clear q1 q2 q3 q4 q5
    go_wp2_with fail
    refine Q1.out.mono ?_
    rintro e wa ⟨rfl, ea⟩
    have B2 := hid (Q2.out wa ea)
    clear Q1 Q2 ea
    go_wp2_with fail
    refine B2.out.mono ?_
    rintro e wb ⟨rfl, eb⟩
    have B3 := hid (Q3.out wb eb)
    clear B2 Q3 eb
    go_wp2_with fail
    refine B3.out.mono ?_
    rintro e wc ⟨bb, rfl, ec⟩
    have B4 := hid (Q4.out wc ec)
    clear B3 Q4 ec
    go_wp2_with fail
    refine B4.out.mono ?_
    rintro e wd ⟨bb2, rfl, ed⟩
    have B5 := hid (Q5.out wd ed)
    clear B4 Q5 ed
    go_wp2_with fail
    refine B5.out.mono ?_
    rintro e we ⟨bb3, rfl, ee⟩
    have E5 := hid ee
    clear B5 ee
    go_wp2
    go_end0
    exact ⟨rfl, _, E5.out, P1.out, by rw [tl_steps]; have := ST.out; have := ST2.out; omega, by rw [tl_steps]; have := ST.out; have := ST2.out; omega, P2.out⟩
end
end Go.Proofs.YtckoglddhkbgkabGreat

/- Two trees of a heap made one. -/
namespace Go.Proofs.YtckoglddhkbgkabGreat
open Go.ChangeShapes Go.WideShapes Go.ChangeAt Go.RowKit
open Tr

/-- a heap as it lies, but for which of its top ones is the root -/
structure Gh (s : St) (H T : List Nat) : Prop where
  fh : Fh (LS s) (hasS s) H T
  od : Od (hasS s) H
  fb : Fb (hasS s) H
/-- nothing has turned but links, Ranks, Marks of these nodes -/
structure Kp (s s' : St) (H : List Nat) : Prop where
  sm : Sm s s'
  key : ∀ a j, 6 ≤ j → hasS s' a j = hasS s a j
  out : ∀ a, a ∉ H → ∀ j, hasS s' a j = hasS s a j
theorem Kp.refl {s : St} (ok : Ok s) (H : List Nat) : Kp s s H := ⟨Sm.refl ok, fun _ _ _ => rfl, fun _ _ _ => rfl⟩
theorem Kp.trans {s s1 s2 : St} {H : List Nat} (h : Kp s s1 H) (k : Kp s1 s2 H) : Kp s s2 H := ⟨h.sm.trans k.sm, fun a j hj => (k.key a j hj).trans (h.key a j hj), fun a ha j => (k.out a ha j).trans (h.out a ha j)⟩
theorem Kp.tk {s : St} (ok : Ok s) (k : Nat) (H : List Nat) : Kp s (tk s k) H := ⟨Sm.tk ok k, fun _ _ _ => rfl, fun _ _ _ => rfl⟩
theorem Gh.tk {s : St} {H T : List Nat} (h : Gh s H T) (k : Nat) : Gh (tk s k) H T := ⟨h.fh, h.od, h.fb⟩
/-- how many nodes that are no top ones have a Mark -/
def mks (f : Nat → Nat → Int) (H : List Nat) : Nat := H.countP fun c => decide (f c 0 ≠ -1 ∧ f c 5 = 1)
theorem Hng.mks {f g : Nat → Nat → Int} {n m : Nat} {T C H : List Nat} (k : Hng f g n m T C) (h0 : f m 0 = -1) : mks g H = mks f H := by
  unfold Go.Proofs.YtckoglddhkbgkabGreat.mks
  refine List.countP_congr fun c _ => ?_
  rw [k.e0, k.e5]
  by_cases e : c = m
  · subst e
    rw [if_pos rfl, if_pos rfl, h0]
    simp
  · rw [if_neg e, if_neg e]
theorem mem_rot {x y : List Nat} {b c : Nat} (hn : (x ++ b :: y).Nodup) : c ∈ y ++ x ↔ c ∈ x ++ b :: y ∧ c ≠ b := by
  rw [List.nodup_append] at hn
  obtain ⟨n1, n2, n3⟩ := hn
  rw [List.nodup_cons] at n2
  simp only [List.mem_append, List.mem_cons]
  constructor
  · rintro (h | h)
    · exact ⟨Or.inr (Or.inr h), fun e => n2.1 (e ▸ h)⟩
    · exact ⟨Or.inl h, fun e => n3 c h b (by simp) e⟩
  · rintro ⟨h | h | h, hne⟩
    · exact Or.inr h
    · exact absurd h hne
    · exact Or.inl h

theorem nodup_sub_len : ∀ {l H : List Nat}, l.Nodup → (∀ c ∈ l, c ∈ H) → l.length ≤ H.length
  | [], _, _, _ => Nat.zero_le _
  | c :: r, H, hn, hs => by
    rw [List.nodup_cons] at hn
    have hc := hs c (by simp)
    have h1 := nodup_sub_len (l := r) (H := H.erase c) hn.2 fun d hd => (List.mem_erase_of_ne (fun e : d = c => hn.1 (e ▸ hd))).2 (hs d (by simp [hd]))
    have h2 := (List.perm_cons_erase hc).length_eq
    simp only [List.length_cons] at h2 ⊢
    omega
/-- what a link leaves: b is a child of a -/
structure Lkd (s s' : St) (H T T' : List Nat) (a b : Nat) : Prop where
  gh : Gh s' H T'
  kp : Kp s s' H
  mem : ∀ c, c ∈ T' ↔ c ∈ T ∧ c ≠ b
  rk : ∀ c, hasS s' c 4 = if c = a then hasS s a 4 + 1 else hasS s c 4
  mrk : mks (hasS s') H = mks (hasS s) H
section
variable {F : Nat → Prop} {w0 w w' : World} {pa pm : Nat} {s : St} {H T : List Nat}
theorem hangH (a b : Nat) (h : Gh s H T) (ha : a ∈ T) (hb : b ∈ T) (hab : a ≠ b) (hr : hasS s a 4 = hasS s b 4) (ho : befF (hasS s) (itF (hasS s) b) (itF (hasS s) a) = false) (hH : H.length ≤ 40000) (ok : Ok s) (e : Ex F w0 w pa pm s) (hs : s.steps ≤ 99999000) :
    Calls Tryz.prog 108 #[.pointer (some ⟨pa, 0, none⟩), .int .i64 (a : Int), .int .i64 (b : Int)] w fun e w' =>
      e = .returned (.tuple #[]) ∧ ∃ s' T', Ex F w0 w' pa pm s' ∧ s.steps ≤ s'.steps ∧ s'.steps ≤ s.steps + 22 ∧ Lkd s s' H T T' a b := by
  obtain ⟨x, y, rfl⟩ := List.append_of_mem hb
  have hn := h.fh.top.nd
  have h' : Fh (LS s) (hasS s) H (b :: (y ++ x)) := h.fh.rot (x := x) (y := b :: y)
  have haT : a ∈ y ++ x := (mem_rot hn).2 ⟨ha, hab⟩
  obtain ⟨aH, a0⟩ := (h.fh.top.mem a).1 ha
  obtain ⟨bH, b0⟩ := (h.fh.top.mem b).1 hb
  obtain ⟨C, kC, c1, c4⟩ := h.fh.ch a aH
  have sub : ∀ c ∈ C, c ∈ H := fun c hc => ((kC.mem c).1 hc).1
  have len : C.length ≤ H.length := nodup_sub_len kC.nd sub
  refine (hangT a b (y ++ x) C h'.top.rg h'.top.nd (fun c hc => h.fh.ln c ((h'.top.mem c).1 hc).1) kC.rg kC.nd (fun c hc => h.fh.ln c (sub c hc)) (fun c hc q => by
    have q1 := ((kC.mem c).1 hc).2
    have q2 := ((h'.top.mem c).1 q).2
    omega) hab (h.fh.ln a aH) c1 c4 (by omega) ok e hs).mono ?_
  rintro e w1 ⟨rfl, s', e1, m1, st1, st2, k⟩
  have fb := Fb.hang h' h.fb haT kC (by rw [← hr]; exact c4) k
  refine ⟨rfl, s', y ++ x, e1, st1, st2, ⟨⟨?_, h.od.hang k ho, fb⟩, ⟨m1, k.e6, fun c hc j => ?_⟩, fun c => mem_rot hn, fun c => ?_, k.mks b0⟩⟩
  · rw [m1.ls]; exact h'.hang haT kC k
  · have ca : c ≠ a := fun e => hc (e ▸ aH)
    have cb : c ≠ b := fun e => hc (e ▸ bH)
    have co := k.out c (fun q => by
      rcases List.mem_append.1 q with q | q
      · exact hc ((h'.top.mem c).1 q).1
      · exact hc (sub c q))
    rcases Nat.lt_or_ge j 6 with hj | hj
    · match j, hj with
      | 0, _ => rw [k.e0, if_neg cb]
      | 1, _ => rw [k.e1, if_neg ca]
      | 2, _ => exact co.1
      | 3, _ => exact co.2
      | 4, _ => rw [k.e4, if_neg ca]
      | 5, _ => rw [k.e5, if_neg cb]
    · exact k.e6 c j hj
  · rw [k.e4, c4]
end
end Go.Proofs.YtckoglddhkbgkabGreat

/- The walk of link, and of first. -/
namespace Go.Proofs.YtckoglddhkbgkabGreat
open Go.ChangeShapes Go.WideShapes Go.ChangeAt Go.RowKit
open Tr

theorem Fh.item {s : St} {H T : List Nat} (h : Fh (LS s) (hasS s) H T) (ok : Ok s) {n : Nat} (hn : n ∈ H) : cellS s (n : Int) 6 = (itF (hasS s) n : Int) := by
  obtain ⟨i1, i2, _⟩ := h.it n hn
  exact cell_nat (j := 6) ok (h.ln n hn) (by decide) i1 i2
theorem Fh.before {s : St} {H T : List Nat} (h : Fh (LS s) (hasS s) H T) (ok : Ok s) {n m : Nat} (hn : n ∈ H) (hm : m ∈ H) : nbS s (n : Int) (m : Int) = befF (hasS s) (itF (hasS s) n) (itF (hasS s) m) := by
  unfold nbS
  rw [h.item ok hn, h.item ok hm]
  exact bef_nat (h.it n hn).2.1 (h.it m hm).2.1
section
variable {F : Nat → Prop} {w0 w w' : World} {pa pm : Nat} {s : St} {H T : List Nat}
theorem linkT (n m : Nat) (h : Gh s H T) (hn : n ∈ T) (hm : m ∈ T) (hnm : n ≠ m) (hr : hasS s n 4 = hasS s m 4) (hH : H.length ≤ 40000) (ok : Ok s) (e : Ex F w0 w pa pm s) (hs : s.steps ≤ 99998000) :
    Calls Tryz.prog 93 #[.pointer (some ⟨pa, 0, none⟩), .int .i64 (n : Int), .int .i64 (m : Int)] w fun e w' =>
      ∃ (a b : Nat) (s' : St) (T' : List Nat), e = .returned (.int .i64 (a : Int)) ∧ ((a = n ∧ b = m) ∨ (a = m ∧ b = n)) ∧ Ex F w0 w' pa pm s' ∧ s.steps ≤ s'.steps ∧ s'.steps ≤ s.steps + 28 ∧ Lkd s s' H T T' a b := by
  obtain ⟨nH, _⟩ := (h.fh.top.mem n).1 hn
  obtain ⟨mH, _⟩ := (h.fh.top.mem m).1 hm
  have B := hid (nbeforeT (m : Int) (n : Int) e (by omega))
  rw [h.fh.before ok mH nH] at B
  by_cases q : befF (hasS s) (itF (hasS s) m) (itF (hasS s) n) = true
  · have G := hid (fun w1 (e1 : Ex F w0 w1 pa pm (tk s 6)) => hangH (s := tk s 6) m n (h.tk 6) hm hn (fun e => hnm e.symm) hr.symm ((befF_tot _).one _ _ q) hH (Sm.tk ok 6).ok e1 (by show s.steps + 6 ≤ _; omega))
    rw [q] at B
    clear h hn hm hnm hr ok e q nH mH
    go_enter Tryz.func93, Tryz.ntmps93
    go_wp2_with fail
    refine B.out.mono ?_
    rintro e w1 ⟨rfl, e1⟩
    have D := hid (G.out w1 e1)
    clear B G e1
    go_wp2_with fail
    refine D.out.mono ?_
    rintro e w2 ⟨rfl, s', T', e2, st1, st2, l⟩
    have E2 := hid e2
    have ST := hid (show s.steps + 6 ≤ s'.steps ∧ s'.steps ≤ s.steps + 6 + 22 from ⟨st1, st2⟩)
    have LK := hid (show Lkd s s' H T T' m n from ⟨l.gh, ⟨⟨l.kp.sm.ok, l.kp.sm.most, l.kp.sm.back, l.kp.sm.len, l.kp.sm.ls⟩, l.kp.key, l.kp.out⟩, l.mem, l.rk, l.mrk⟩)
    clear D e2 st1 st2 l
    go_wp2
    go_ret
    exact ⟨m, n, s', T', rfl, Or.inr ⟨rfl, rfl⟩, E2.out, by have := ST.out; omega, by have := ST.out; omega, LK.out⟩
  · have q' : befF (hasS s) (itF (hasS s) m) (itF (hasS s) n) = false := by simpa using q
    have G := hid (fun w1 (e1 : Ex F w0 w1 pa pm (tk s 6)) => hangH (s := tk s 6) n m (h.tk 6) hn hm hnm hr q' hH (Sm.tk ok 6).ok e1 (by show s.steps + 6 ≤ _; omega))
    rw [q'] at B
    clear h hn hm hnm hr ok e q q' nH mH
    go_enter Tryz.func93, Tryz.ntmps93
    go_wp2_with fail
    refine B.out.mono ?_
    rintro e w1 ⟨rfl, e1⟩
    have D := hid (G.out w1 e1)
    clear B G e1
    go_wp2_with fail
    refine D.out.mono ?_
    rintro e w2 ⟨rfl, s', T', e2, st1, st2, l⟩
    have E2 := hid e2
    have ST := hid (show s.steps + 6 ≤ s'.steps ∧ s'.steps ≤ s.steps + 6 + 22 from ⟨st1, st2⟩)
    have LK := hid (show Lkd s s' H T T' n m from ⟨l.gh, ⟨⟨l.kp.sm.ok, l.kp.sm.most, l.kp.sm.back, l.kp.sm.len, l.kp.sm.ls⟩, l.kp.key, l.kp.out⟩, l.mem, l.rk, l.mrk⟩)
    clear D e2 st1 st2 l
    go_wp2
    go_ret
    exact ⟨n, m, s', T', rfl, Or.inl ⟨rfl, rfl⟩, E2.out, by have := ST.out; omega, by have := ST.out; omega, LK.out⟩
/-- first, of two nodes -/
theorem firstT (n m : Nat) (hn : n ∈ H) (hm : m ∈ H) (h : Fh (LS s) (hasS s) H T) (ok : Ok s) (e : Ex F w0 w pa pm s) (hs : s.steps ≤ 99999000) :
    Calls Tryz.prog 52 #[.pointer (some ⟨pa, 0, none⟩), .int .i64 (n : Int), .int .i64 (m : Int)] w fun e w' =>
      e = .returned (.int .i64 (if befF (hasS s) (itF (hasS s) m) (itF (hasS s) n) = true then (m : Int) else (n : Int))) ∧ Ex F w0 w' pa pm (tk s 6) := by
  have B := hid (nbeforeT (m : Int) (n : Int) e (by omega))
  rw [h.before ok hm hn] at B
  have hn1 : ((n : Int) == -1) = false := by simp
  have hm1 : ((m : Int) != -1) = true := by simp
  clear h hn hm ok e
  generalize befF (hasS s) (itF (hasS s) m) (itF (hasS s) n) = q at *
  cases q
  · go_enter Tryz.func52, Tryz.ntmps52
    go_wp2_with fail
    refine B.out.mono ?_
    rintro e w1 ⟨rfl, e1⟩
    have E1 := hid e1
    clear B e1
    go_wp2
    go_ret
    exact ⟨rfl, E1.out⟩
  · go_enter Tryz.func52, Tryz.ntmps52
    go_wp2_with fail
    refine B.out.mono ?_
    rintro e w1 ⟨rfl, e1⟩
    have E1 := hid e1
    clear B e1
    go_wp2
    go_ret
    exact ⟨rfl, E1.out⟩
/-- first, of None and what is behind it -/
theorem firstT_l (m : Int) (w : World) : Calls Tryz.prog 52 #[.pointer (some ⟨pa, 0, none⟩), .int .i64 (-1), .int .i64 m] w fun e w' => e = .returned (.int .i64 m) ∧ w' = w := by
  go_enter Tryz.func52, Tryz.ntmps52
  go_wp2
  go_ret
  exact ⟨rfl, rfl⟩
theorem firstT_r (n : Nat) (w : World) : Calls Tryz.prog 52 #[.pointer (some ⟨pa, 0, none⟩), .int .i64 (n : Int), .int .i64 (-1)] w fun e w' => e = .returned (.int .i64 (n : Int)) ∧ w' = w := by
  have hn1 : ((n : Int) == -1) = false := by simp
  go_enter Tryz.func52, Tryz.ntmps52
  go_wp2
  go_ret
  exact ⟨rfl, rfl⟩
end
end Go.Proofs.YtckoglddhkbgkabGreat

/- How many nodes are below one. -/
namespace Go.Proofs.YtckoglddhkbgkabGreat
open Go.ChangeShapes Go.WideShapes Go.ChangeAt Go.RowKit
open Tr

/-- the Fibonacci number F(k + 2) -/
def gF : Nat → Nat
  | 0 => 1
  | 1 => 2
  | k + 2 => gF k + gF (k + 1)
theorem gF_pos : ∀ k, 1 ≤ gF k
  | 0 => by decide
  | 1 => by decide
  | k + 2 => by have := gF_pos k; have := gF_pos (k + 1); simp only [gF]; omega
theorem gF_succ : ∀ k, gF k ≤ gF (k + 1)
  | 0 => by decide
  | k + 1 => by have := gF_pos k; show gF (k + 1) ≤ gF k + gF (k + 1); omega
theorem gF_mono {a b : Nat} (h : a ≤ b) : gF a ≤ gF b := by
  obtain ⟨d, rfl⟩ := Nat.exists_eq_add_of_le h
  clear h
  induction d with
  | zero => exact Nat.le_refl _
  | succ d ih => exact Nat.le_trans ih (gF_succ _)
theorem gF_two : ∀ k, 2 ^ k ≤ gF (2 * k)
  | 0 => by decide
  | k + 1 => by
    have h1 := gF_two k
    have h2 := gF_succ (2 * k)
    rw [Nat.pow_succ, show 2 * (k + 1) = 2 * k + 2 by omega]
    show _ ≤ gF (2 * k) + gF (2 * k + 1)
    omega
/-- numbers of which few are small have a great sum -/
theorem gF_sum : ∀ (k : Nat) (l : List Nat), l.length = k → (∀ j, l.countP (fun r => decide (r < j)) ≤ j + 1) → gF k ≤ 1 + (l.map gF).sum
  | 0, l, h, _ => by simp [gF]
  | 1, l, h, _ => by
    match l, h with
    | [r], _ => have := gF_pos r; simp [gF]; omega
  | k + 2, l, h, hc => by
    have hex : ∃ r ∈ l, k ≤ r := by
      apply Classical.byContradiction
      intro hn
      have : l.countP (fun r => decide (r < k)) = l.length := List.countP_eq_length.2 fun r hr => by
        have : ¬ k ≤ r := fun q => hn ⟨r, hr, q⟩
        simpa using this
      have := hc k
      omega
    obtain ⟨r, hr, hk⟩ := hex
    have pm := List.perm_cons_erase hr
    have hl := pm.length_eq
    rw [List.length_cons, h] at hl
    have ih := gF_sum (k + 1) (l.erase r) (by omega) fun j => Nat.le_trans (List.Sublist.countP_le List.erase_sublist) (hc j)
    have hs := (pm.map gF).sum_nat
    rw [List.map_cons, List.sum_cons] at hs
    have := gF_mono hk
    show gF k + gF (k + 1) ≤ _
    omega

/-- a node's children, as they come in H -/
def kidF (f : Nat → Nat → Int) (H : List Nat) (n : Nat) : List Nat := H.filter fun c => decide (f c 0 = (n : Int))
theorem kid_mem {f : Nat → Nat → Int} {H : List Nat} {n c : Nat} : c ∈ kidF f H n ↔ c ∈ H ∧ f c 0 = (n : Int) := by unfold kidF; rw [List.mem_filter]; simp
theorem kid_perm {f : Nat → Nat → Int} {H C : List Nat} {n : Nat} (hn : H.Nodup) (k : Kd f H (n : Int) C) : C.Perm (kidF f H n) :=
  (List.perm_ext_iff_of_nodup k.nd (hn.filter _)).2 fun x => (k.mem x).trans kid_mem.symm
/-- a node and what is below it -/
def desc (f : Nat → Nat → Int) (H : List Nat) : Nat → Nat → List Nat
  | 0, n => [n]
  | h + 1, n => n :: (kidF f H n).flatMap (desc f H h)
section
variable {L : Nat → Bool} {f : Nat → Nat → Int} {H T : List Nat} {ht : Nat → Nat}
theorem desc_sub : ∀ (h n x : Nat), n ∈ H → x ∈ desc f H h n → x ∈ H
  | 0, n, x, hn, hx => by simp [desc] at hx; rw [hx]; exact hn
  | h + 1, n, x, hn, hx => by
    simp only [desc, List.mem_cons, List.mem_flatMap] at hx
    rcases hx with rfl | ⟨c, hc, hx⟩
    · exact hn
    · exact desc_sub h c x (kid_mem.1 hc).1 hx
theorem desc_ht (hh : ∀ c ∈ H, ∀ p : Nat, f c 0 = (p : Int) → ht c < ht p) : ∀ (h n x : Nat), x ∈ desc f H h n → x = n ∨ ht x < ht n
  | 0, n, x, hx => by simp [desc] at hx; exact Or.inl hx
  | h + 1, n, x, hx => by
    simp only [desc, List.mem_cons, List.mem_flatMap] at hx
    rcases hx with rfl | ⟨c, hc, hx⟩
    · exact Or.inl rfl
    · have h1 := hh c (kid_mem.1 hc).1 n (kid_mem.1 hc).2
      rcases desc_ht hh h c x hx with rfl | h2
      · exact Or.inr h1
      · exact Or.inr (by omega)
theorem desc_self (h n : Nat) : n ∈ desc f H h n := by cases h <;> simp [desc]
/-- what is above one of them is one of them -/
theorem desc_up : ∀ (h n x : Nat), x ∈ desc f H h n → x ≠ n → ∃ p ∈ desc f H h n, f x 0 = (p : Int)
  | 0, n, x, hx, hne => by simp [desc] at hx; exact absurd hx hne
  | h + 1, n, x, hx, hne => by
    simp only [desc, List.mem_cons, List.mem_flatMap] at hx
    rcases hx with hx | ⟨c, hc, hx⟩
    · exact absurd hx hne
    · by_cases e : x = c
      · subst e; exact ⟨n, desc_self _ _, (kid_mem.1 hc).2⟩
      · obtain ⟨p, hp, e2⟩ := desc_up h c x hx e
        exact ⟨p, by simp only [desc, List.mem_cons, List.mem_flatMap]; exact Or.inr ⟨c, hc, hp⟩, e2⟩
theorem desc_apart (hh : ∀ c ∈ H, ∀ p : Nat, f c 0 = (p : Int) → ht c < ht p) {h n : Nat} {a b : Nat} (ha : a ∈ H) (hb : b ∈ H) (a0 : f a 0 = f b 0) (ht' : f a 0 = (n : Int) ∨ f a 0 = -1) (hab : a ≠ b) :
    ∀ (k x : Nat), ht a - ht x ≤ k → x ∈ desc f H h a → x ∈ desc f H h b → False := by
  have top : ∀ {a b : Nat}, a ∈ H → b ∈ H → f a 0 = f b 0 → (f a 0 = (n : Int) ∨ f a 0 = -1) → a ≠ b → a ∈ desc f H h b → False := fun {a b} ha hb e0 h0 hne hx => by
    obtain ⟨p, hp, e⟩ := desc_up h b a hx hne
    have h1 := hh b hb p (by rw [← e0]; exact e)
    rcases desc_ht hh h b p hp with rfl | h2
    · omega
    · omega
  intro k
  induction k with
  | zero =>
    intro x hk hx hy
    rcases desc_ht hh h a x hx with rfl | h2
    · exact top ha hb a0 ht' hab hy
    · omega
  | succ k ih =>
    intro x hk hx hy
    by_cases e : x = a
    · subst e; exact top ha hb a0 ht' hab hy
    · by_cases e2 : x = b
      · subst e2
        exact top hb ha a0.symm (by rw [← a0]; exact ht') (fun e => hab e.symm) hx
      · obtain ⟨p, hp, e3⟩ := desc_up h a x hx e
        obtain ⟨q, hq, e4⟩ := desc_up h b x hy e2
        have : p = q := by omega
        subst this
        have h1 := hh x (desc_sub h a x ha hx) p e3
        have h2 : ht p ≤ ht a := by rcases desc_ht hh h a p hp with rfl | h2 <;> omega
        exact ih p (by omega) hp hq
theorem flat_nd {g : Nat → List Nat} : ∀ {l : List Nat}, l.Nodup → (∀ a ∈ l, (g a).Nodup) → (∀ a ∈ l, ∀ b ∈ l, a ≠ b → ∀ x, x ∈ g a → x ∈ g b → False) → (l.flatMap g).Nodup
  | [], _, _, _ => by simp
  | a :: r, hn, h1, h2 => by
    rw [List.nodup_cons] at hn
    rw [List.flatMap_cons, List.nodup_append]
    refine ⟨h1 a (by simp), flat_nd hn.2 (fun b hb => h1 b (by simp [hb])) (fun b hb c hc => h2 b (by simp [hb]) c (by simp [hc])), fun x hx y hy e => ?_⟩
    subst e
    obtain ⟨b, hb, hy⟩ := List.mem_flatMap.1 hy
    exact h2 a (by simp) b (by simp [hb]) (fun e => hn.1 (e ▸ hb)) x hx hy
theorem desc_nd (hH : H.Nodup) (hh : ∀ c ∈ H, ∀ p : Nat, f c 0 = (p : Int) → ht c < ht p) : ∀ (h n : Nat), (desc f H h n).Nodup
  | 0, n => by simp [desc]
  | h + 1, n => by
    simp only [desc, List.nodup_cons]
    refine ⟨fun q => ?_, flat_nd (hH.filter _) (fun a _ => desc_nd hH hh h a) fun a ha b hb hab x hx hy => ?_⟩
    · obtain ⟨c, hc, hx⟩ := List.mem_flatMap.1 q
      have h1 := hh c (kid_mem.1 hc).1 n (kid_mem.1 hc).2
      rcases desc_ht hh h c n hx with rfl | h2 <;> omega
    · have a1 := kid_mem.1 ha
      have b1 := kid_mem.1 hb
      exact desc_apart hh (n := n) a1.1 b1.1 (a1.2.trans b1.2.symm) (Or.inl a1.2) hab _ x (Nat.le_refl _) hx hy
theorem desc_size (h : Fh L f H T) (b : Fb f H) (hh : ∀ c ∈ H, ∀ p : Nat, f c 0 = (p : Int) → ht c < ht p) : ∀ (k n : Nat), n ∈ H → ht n ≤ k → gF (kidF f H n).length ≤ (desc f H k n).length
  | 0, n, hn, hk => by
    have e : kidF f H n = [] := by
      cases q : kidF f H n with
      | nil => rfl
      | cons c r =>
        have hc : c ∈ kidF f H n := by rw [q]; simp
        have := hh c (kid_mem.1 hc).1 n (kid_mem.1 hc).2
        omega
    rw [e]; simp [desc, gF]
  | k + 1, n, hn, hk => by
    have ih : ∀ c ∈ kidF f H n, gF (kidF f H c).length ≤ (desc f H k c).length := fun c hc => desc_size h b hh k c (kid_mem.1 hc).1 (by have := hh c (kid_mem.1 hc).1 n (kid_mem.1 hc).2; omega)
    have rk : ∀ c ∈ H, f c 4 = ((kidF f H c).length : Int) := fun c hc => by
      obtain ⟨C, k1, _, k3⟩ := h.ch c hc
      rw [k3, (kid_perm h.nd k1).length_eq]
    have hs := gF_sum (kidF f H n).length ((kidF f H n).map fun c => (kidF f H c).length) (by rw [List.length_map]) fun j => by
      rw [List.countP_map]
      have h1 := b n hn (kidF f H n) (h.nd.filter _) (fun c => kid_mem) (j + 1)
      refine Nat.le_trans (List.countP_mono_left fun c hc hx => ?_) h1
      have h2 := rk c (kid_mem.1 hc).1
      have h3 := h.mrk c (kid_mem.1 hc).1
      simp only [Function.comp, decide_eq_true_eq] at hx ⊢
      omega
    have hle : ∀ l : List Nat, (∀ c ∈ l, gF (kidF f H c).length ≤ (desc f H k c).length) → ((l.map fun c => (kidF f H c).length).map gF).sum ≤ (l.flatMap (desc f H k)).length := by
      intro l
      induction l with
      | nil => intro _; simp
      | cons c r ihl =>
        intro hl
        have h1 := hl c (by simp)
        have h2 := ihl fun d hd => hl d (by simp [hd])
        simp only [List.map_cons, List.sum_cons, List.flatMap_cons, List.length_append]
        omega
    have := hle _ ih
    simp only [desc, List.length_cons]
    omega
/-- P12.2, and what comes of it -/
theorem frank_size (h : Fh L f H T) (b : Fb f H) {n : Nat} (hn : n ∈ H) : ∃ r : Nat, f n 4 = (r : Int) ∧ gF r ≤ H.length := by
  obtain ⟨ht, hh⟩ := h.ht
  obtain ⟨C, k1, _, k3⟩ := h.ch n hn
  refine ⟨C.length, k3, ?_⟩
  rw [(kid_perm h.nd k1).length_eq]
  exact Nat.le_trans (desc_size h b hh (ht n) n hn (Nat.le_refl _)) (nodup_sub_len (desc_nd h.nd hh _ _) fun x hx => desc_sub _ n x hn hx)
theorem rank_14 (h : Fh L f H T) (b : Fb f H) (hl : H.length ≤ 1000) {n : Nat} (hn : n ∈ H) : ∃ r : Nat, f n 4 = (r : Int) ∧ r ≤ 14 := by
  obtain ⟨r, h1, h2⟩ := frank_size h b hn
  refine ⟨r, h1, ?_⟩
  rcases Nat.lt_or_ge 14 r with q | q
  · have h3 := gF_mono (show 15 ≤ r from q)
    have h4 : gF 15 = 1597 := by decide
    omega
  · exact q
end
end Go.Proofs.YtckoglddhkbgkabGreat
