/- Several texts in one. -/
import Derived.Test.YtckoglddhkbgkabGreatGf
import Derived.Test.YtckoglddhkbgkabGreatGb
/- What remove does, as plain data. -/
namespace Go.Proofs.YtckoglddhkbgkabGreat
open Go.ChangeShapes Go.WideShapes Go.ChangeAt Go.RowKit
open Tr

/-- the Ups of these are taken away -/
def unS (s : St) (l : List Int) : St := l.foldl (fun s n => setS s n 0 (-1)) s
theorem un_snoc (s : St) (l : List Int) (x : Int) : unS s (l ++ [x]) = setS (unS s l) x 0 (-1) := by unfold unS; rw [List.foldl_append]; rfl
theorem un_steps : ∀ (l : List Int) (s : St), (unS s l).steps = s.steps + l.length
  | [], s => rfl
  | x :: r, s => by
    have := un_steps r (setS s x 0 (-1))
    rw [set_steps] at this
    show (unS (setS s x 0 (-1)) r).steps = _
    rw [this, List.length_cons]
    omega
theorem un_view : ∀ (l : List Nat) {s : St} (_ : Ok s), (∀ b ∈ l, LS s b = true) → Sm s (unS s (nd1 l)) ∧ ∀ c j, hasS (unS s (nd1 l)) c j = if j = 0 ∧ c ∈ l then -1 else hasS s c j
  | [], s, ok, _ => ⟨Sm.refl ok, fun c j => by simp [unS, nd1]⟩
  | b :: r, s, ok, h => by
    have m1 := Sm.set ok (b : Int) 0 (-1)
    have v1 : hasS (setS s (b : Int) 0 (-1)) = put (hasS s) b 0 (-1) := set_has (j := 0) (h b (by simp)) (by decide)
    obtain ⟨m2, v2⟩ := un_view r m1.ok (fun b hb => by rw [m1.ls]; exact h b (by simp [hb]))
    refine ⟨m1.trans m2, fun c j => ?_⟩
    show hasS (unS (setS s (b : Int) 0 (-1)) (nd1 r)) c j = _
    rw [v2, v1]
    by_cases q : j = 0 ∧ c ∈ r
    · rw [if_pos q, if_pos ⟨q.1, by simp [q.2]⟩]
    · rw [if_neg q]
      by_cases e : c = b
      · subst e
        by_cases z : j = 0
        · subst z
          rw [put_at, if_pos ⟨rfl, by simp⟩]
        · rw [put_nj z, if_neg (fun y => z y.1)]
      · rw [put_ne e, if_neg]
        rintro ⟨y1, y2⟩
        rcases List.mem_cons.1 y2 with y2 | y2
        · exact e y2
        · exact q ⟨y1, y2⟩
theorem give_ls {s : St} {c : Nat} (h : LS s c = true) : LS (giveS s (c : Int)) = fun a => if a = c then false else LS s a := by
  obtain ⟨x, hx⟩ := ls_pl h
  funext a
  unfold LS
  rw [give_yes (x := (x, true)) h (by simpa using hx)]
  unfold liveS
  simp only [Int.toNat_natCast]
  by_cases e : a = c
  · subst e
    rw [List.getElem?_set_self (ls_lt h)]
    simp
  · rw [List.getElem?_set_ne (fun q => e q.symm), if_neg e]
theorem give_has {s : St} {c : Nat} (h : LS s c = true) : hasS (giveS s (c : Int)) = hasS s := by
  obtain ⟨x, hx⟩ := ls_pl h
  funext a
  rw [give_yes (x := (x, true)) h (by simpa using hx)]
  unfold hasS
  simp only [Int.toNat_natCast]
  by_cases e : a = c
  · subst e
    rw [List.getElem?_set_self (ls_lt h), hx]
  · rw [List.getElem?_set_ne (fun q => e q.symm)]
theorem give_back {s : St} {c : Nat} (h : LS s c = true) : (giveS s (c : Int)).back = s.back ++ [c] ∧ (giveS s (c : Int)).pl.length = s.pl.length := by
  obtain ⟨x, hx⟩ := ls_pl h
  rw [give_yes (x := (x, true)) h (by simpa using hx)]
  simp
theorem gb_view {s : St} {n i : Nat} (ok : Ok s) (hn : LS s n = true) (hi : LS s i = true) (h6 : hasS s n 6 = (i : Int)) :
    Ok (gbS s (n : Int)) ∧ cnt (gbS s (n : Int)).pl + 1 = cnt s.pl ∧ (∀ c, LS (gbS s (n : Int)) c = if c = n then false else LS s c) ∧ ∀ c j, hasS (gbS s (n : Int)) c j = if c = i ∧ j = 9 then -1 else hasS s c j := by
  unfold gbS
  have c6 : cellS s (n : Int) 6 = (i : Int) := cell_nat (j := 6) ok hn (by decide) h6 hi
  rw [c6]
  have s4 := (Sm.tk ok 1).trans (Sm.set (Sm.tk ok 1).ok (i : Int) 9 (-1))
  have v4 : hasS (setS (tk s 1) (i : Int) 9 (-1)) = put (hasS s) i 9 (-1) := set_has (s := tk s 1) (j := 9) hi (by decide)
  have e4 := cnt_sm ok s4
  generalize setS (tk s 1) (i : Int) 9 (-1) = s5 at *
  have ln : LS s5 n = true := by rw [s4.ls]; exact hn
  obtain ⟨g1, g2⟩ := give_back ln
  have okg := s4.ok.give (c := (n : Int))
  refine ⟨okg, ?_, fun c => by rw [give_ls ln, s4.ls], fun c j => ?_⟩
  · have c1 := okg.count
    have c2 := s4.ok.count
    rw [g1, g2] at c1
    simp at c1
    omega
  · rw [give_has ln, v4]
    by_cases e : c = i ∧ j = 9
    · rw [if_pos e, e.1, e.2, put_at]
    · rw [if_neg e, put_or (by by_cases z : c = i; · right; exact fun y => e ⟨z, y⟩
                               · left; exact z)]

/-- what remove does ahead of merge: n is gone, its children C are top ones -/
structure Gon (L : Nat → Bool) (f : Nat → Nat → Int) (L' : Nat → Bool) (g : Nat → Nat → Int) (n : Nat) (x C : List Nat) : Prop where
  ls : ∀ a, L' a = if a = n then false else L a
  e0 : ∀ a, g a 0 = if a ∈ C then -1 else f a 0
  e9 : ∀ a, g a 9 = if a = itF f n then -1 else f a 9
  oth : ∀ a j, j ≠ 0 → j ≠ 2 → j ≠ 3 → j ≠ 9 → g a j = f a j
  rg : Ring g (C ++ x)
  out : ∀ a, a ∉ (n :: x) ++ C → g a 2 = f a 2 ∧ g a 3 = f a 3
section
variable {L L' : Nat → Bool} {f g : Nat → Nat → Int} {H x C : List Nat} {n : Nat}
theorem Gon.it (k : Gon L f L' g n x C) : itF g = itF f := by funext a; unfold itF; rw [k.oth a 6 (by decide) (by decide) (by decide) (by decide)]
theorem Fh.gone (h : Fh L f H (n :: x)) (hC : Kd f H (n : Int) C) (k : Gon L f L' g n x C) : Fh L' g (H.erase n) (C ++ x) := by
  have tn := h.top.nd
  rw [List.nodup_cons] at tn
  obtain ⟨nH, n0⟩ := (h.top.mem n).1 (by simp)
  have me : ∀ c, c ∈ H.erase n ↔ c ≠ n ∧ c ∈ H := fun c => h.nd.mem_erase_iff
  have cx : ∀ c ∈ C, c ∉ x := fun c hc q => by have := ((hC.mem c).1 hc).2; have := ((h.top.mem c).1 (List.mem_cons_of_mem _ q)).2; omega
  have nC : n ∉ C := fun q => by have := ((hC.mem n).1 q).2; omega
  refine ⟨h.nd.erase n, fun a ha => ?_, fun a ha => ?_, fun a ha b hb => ?_, fun a ha => ?_, fun a ha => ?_, ⟨k.rg, ?_, fun c => ?_⟩, fun p hp => ?_, ?_⟩
  · obtain ⟨h1, h2⟩ := (me a).1 ha
    rw [k.ls, if_neg h1]; exact h.ln a h2
  · obtain ⟨h1, h2⟩ := (me a).1 ha
    obtain ⟨i1, i2, i3⟩ := h.it a h2
    rw [k.it, k.oth a 6 (by decide) (by decide) (by decide) (by decide), k.ls, if_neg (h.sep a h2 n nH), k.e9, if_neg (fun e => h1 (by
      have j3 := (h.it n nH).2.2
      rw [← e, i3] at j3
      omega))]
    exact ⟨i1, i2, i3⟩
  · rw [k.it]; exact h.sep a ((me a).1 ha).2 b ((me b).1 hb).2
  · obtain ⟨h1, h2⟩ := (me a).1 ha
    rw [k.e0]
    by_cases q : a ∈ C
    · rw [if_pos q]; exact Or.inl rfl
    · rw [if_neg q]
      rcases h.up a h2 with e | ⟨p, hp, e⟩
      · exact Or.inl e
      · exact Or.inr ⟨p, (me p).2 ⟨fun z => q ((hC.mem a).2 ⟨h2, by rw [e, z]⟩), hp⟩, e⟩
  · rw [k.oth a 5 (by decide) (by decide) (by decide) (by decide)]; exact h.mrk a ((me a).1 ha).2
  · rw [List.nodup_append]
    exact ⟨hC.nd, tn.2, fun a ha b hb e => cx a ha (e ▸ hb)⟩
  · rw [List.mem_append, k.e0, me c]
    by_cases q : c ∈ C
    · rw [if_pos q]
      exact ⟨fun _ => ⟨⟨fun e => nC (e ▸ q), ((hC.mem c).1 q).1⟩, rfl⟩, fun _ => Or.inl q⟩
    · rw [if_neg q]
      constructor
      · rintro (z | z)
        · exact absurd z q
        · obtain ⟨z1, z2⟩ := (h.top.mem c).1 (List.mem_cons_of_mem _ z)
          exact ⟨⟨fun e => tn.1 (e ▸ z), z1⟩, z2⟩
      · rintro ⟨⟨z1, z2⟩, z3⟩
        exact Or.inr ((List.mem_cons.1 ((h.top.mem c).2 ⟨z2, z3⟩)).resolve_left z1)
  · obtain ⟨h1, h2⟩ := (me p).1 hp
    obtain ⟨D, d1, d2, d3⟩ := h.ch p h2
    have dc : ∀ c ∈ D, c ∉ C ∧ c ≠ n := fun c hc => by
      have z := ((d1.mem c).1 hc).2
      exact ⟨fun q => by have := ((hC.mem c).1 q).2; omega, fun e => by subst e; omega⟩
    refine ⟨D, ⟨ring_like d1.rg fun c hc => ?_, d1.nd, fun c => ?_⟩, by rw [k.oth p 1 (by decide) (by decide) (by decide) (by decide)]; exact d2, by rw [k.oth p 4 (by decide) (by decide) (by decide) (by decide)]; exact d3⟩
    · have := k.out c (fun q => by
        rcases List.mem_append.1 q with q | q
        · have := ((h.top.mem c).1 q).2; have := ((d1.mem c).1 hc).2; omega
        · exact (dc c hc).1 q)
      exact ⟨this.2, this.1⟩
    · rw [k.e0, me c]
      constructor
      · intro hc
        rw [if_neg (dc c hc).1]
        exact ⟨⟨(dc c hc).2, ((d1.mem c).1 hc).1⟩, ((d1.mem c).1 hc).2⟩
      · rintro ⟨⟨z1, z2⟩, z3⟩
        by_cases q : c ∈ C
        · rw [if_pos q] at z3; omega
        · rw [if_neg q] at z3; exact (d1.mem c).2 ⟨z2, z3⟩
  · obtain ⟨ht, hh⟩ := h.ht
    refine ⟨ht, fun c hc p hp => ?_⟩
    rw [k.e0] at hp
    by_cases q : c ∈ C
    · rw [if_pos q] at hp; omega
    · rw [if_neg q] at hp; exact hh c ((me c).1 hc).2 p hp
theorem Od.gone (h : Od f H) (k : Gon L f L' g n x C) : Od g (H.erase n) := by
  have e : befF g = befF f := by funext a c; unfold befF; rw [k.oth a 7 (by decide) (by decide) (by decide) (by decide), k.oth a 8 (by decide) (by decide) (by decide) (by decide), k.oth c 7 (by decide) (by decide) (by decide) (by decide), k.oth c 8 (by decide) (by decide) (by decide) (by decide)]
  intro c hc p hp
  rw [k.e0] at hp
  rw [e, k.it]
  by_cases q : c ∈ C
  · rw [if_pos q] at hp; omega
  · rw [if_neg q] at hp; exact h c (List.mem_of_mem_erase hc) p hp
theorem Fb.gone (h : Fh L f H (n :: x)) (b : Fb f H) (hC : Kd f H (n : Int) C) (k : Gon L f L' g n x C) : Fb g (H.erase n) := by
  obtain ⟨nH, n0⟩ := (h.top.mem n).1 (by simp)
  intro p hp D dn dm j
  have hp2 := h.nd.mem_erase_iff.1 hp
  have hD : ∀ c, c ∈ D ↔ c ∈ H ∧ f c 0 = (p : Int) := fun c => by
    rw [dm c, k.e0, h.nd.mem_erase_iff]
    constructor
    · rintro ⟨⟨_, z2⟩, z3⟩
      by_cases q : c ∈ C
      · rw [if_pos q] at z3; omega
      · rw [if_neg q] at z3; exact ⟨z2, z3⟩
    · rintro ⟨z1, z2⟩
      have q : c ∉ C := fun q => by have := ((hC.mem c).1 q).2; omega
      rw [if_neg q]
      exact ⟨⟨fun e => by subst e; omega, z1⟩, z2⟩
  rw [show D.countP (fun c => decide (g c 4 + g c 5 < (j : Int))) = D.countP (fun c => decide (f c 4 + f c 5 < (j : Int))) from List.countP_congr fun c _ => by
    rw [k.oth c 4 (by decide) (by decide) (by decide) (by decide), k.oth c 5 (by decide) (by decide) (by decide) (by decide)]]
  exact b p hp2.2 D dn hD j
theorem mks_gone (h : Fh L f H (n :: x)) (k : Gon L f L' g n x C) : mks g (H.erase n) ≤ mks f H := by
  unfold mks
  refine Nat.le_trans (List.countP_mono_left fun c _ hc => ?_) (List.Sublist.countP_le List.erase_sublist)
  have _ := h.nd
  simp only [decide_eq_true_eq] at hc ⊢
  rw [k.e0, k.oth c 5 (by decide) (by decide) (by decide) (by decide)] at hc
  by_cases q : c ∈ C
  · rw [if_pos q] at hc; omega
  · rw [if_neg q] at hc; exact hc
end
end Go.Proofs.YtckoglddhkbgkabGreat

/- The walk of remove. -/
namespace Go.Proofs.YtckoglddhkbgkabGreat
open Go.ChangeShapes Go.WideShapes Go.ChangeAt Go.RowKit
open Tr

/-- what remove leaves: the node n is given back, its item is free -/
structure Rmd (s s' : St) (H : List Nat) (n : Nat) (T' : List Nat) : Prop where
  gh : Gh s' (H.erase n) T'
  lto : Lto (hasS s') T'
  ok : Ok s'
  num : cnt s'.pl + 1 = cnt s.pl
  most : s'.most = s.most
  ls : ∀ a, LS s' a = if a = n then false else LS s a
  it : itF (hasS s') = itF (hasS s)
  free : hasS s' (itF (hasS s) n) 9 = -1
  key : ∀ a j, 6 ≤ j → ¬ (a = itF (hasS s) n ∧ j = 9) → hasS s' a j = hasS s a j
  out : ∀ a, a ∉ H → a ≠ itF (hasS s) n → ∀ j, hasS s' a j = hasS s a j
  mrk : mks (hasS s') (H.erase n) ≤ mks (hasS s) H
/-- ahead of merge -/
structure Gop (s s' : St) (H : List Nat) (n : Nat) : Prop where
  num : cnt s'.pl + 1 = cnt s.pl
  most : s'.most = s.most
  ls : ∀ a, LS s' a = if a = n then false else LS s a
  it : itF (hasS s') = itF (hasS s)
  free : hasS s' (itF (hasS s) n) 9 = -1
  key : ∀ a j, 6 ≤ j → ¬ (a = itF (hasS s) n ∧ j = 9) → hasS s' a j = hasS s a j
  out : ∀ a, a ∉ H → a ≠ itF (hasS s) n → ∀ j, hasS s' a j = hasS s a j
  mrk : mks (hasS s') (H.erase n) ≤ mks (hasS s) H
  nin : itF (hasS s) n ∉ H
theorem gon_end {s s1 s' : St} {H T' : List Nat} {n : Nat} (ok : Ok s1) (g : Gop s s1 H n) (p : Kp s1 s' (H.erase n)) (h : Gh s' (H.erase n) T') (l : Lto (hasS s') T') (m : mks (hasS s') (H.erase n) = mks (hasS s1) (H.erase n)) : Rmd s s' H n T' := by
  have e : itF (hasS s') = itF (hasS s1) := by funext a; unfold itF; rw [p.key a 6 (by decide)]
  refine ⟨h, l, p.sm.ok, ?_, p.sm.most.trans g.most, fun a => by rw [p.sm.ls]; exact g.ls a, e.trans g.it, by rw [p.key _ 9 (by decide)]; exact g.free, fun a j hj hne => (p.key a j hj).trans (g.key a j hj hne), fun a ha hne j => (p.out a (fun q => ha (List.mem_of_mem_erase q)) j).trans (g.out a ha hne j), by rw [m]; exact g.mrk⟩
  rw [cnt_sm ok p.sm]; exact g.num
theorem gon_of {s s3 s4 : St} {H x C : List Nat} {n : Nat} (h : Fh (LS s) (hasS s) H (n :: x)) (hC : Kd (hasS s) H (n : Int) C) (ln : LS s n = true) (m : Sm s s4) (f3 : ∀ a j, j ≠ 2 → j ≠ 3 → hasS s3 a j = if j = 0 ∧ a ∈ C then -1 else hasS s a j)
    (o3 : ∀ a, a ∉ (n :: x) ++ C → hasS s3 a 2 = hasS s a 2 ∧ hasS s3 a 3 = hasS s a 3) (r4 : Ring (hasS s4) (C ++ x)) (l4 : Lnk (hasS s3) (hasS s4) (n :: (C ++ x))) (od : Od (hasS s) H) (fb : Fb (hasS s) H) (ok : Ok s) :
    Gh (gbS s4 (n : Int)) (H.erase n) (C ++ x) ∧ Gop s (gbS s4 (n : Int)) H n ∧ Ok (gbS s4 (n : Int)) := by
  obtain ⟨nH, n0⟩ := (h.top.mem n).1 (by simp)
  obtain ⟨i1, i2, i3⟩ := h.it n nH
  have v4 : ∀ a j, j ≠ 2 → j ≠ 3 → hasS s4 a j = if j = 0 ∧ a ∈ C then -1 else hasS s a j := fun a j h2 h3 => (l4.oth a j h2 h3).trans (f3 a j h2 h3)
  obtain ⟨g1, g2, g3, g4⟩ := gb_view (s := s4) (n := n) (i := itF (hasS s) n) m.ok (by rw [m.ls]; exact ln) (by rw [m.ls]; exact i2) (by rw [v4 n 6 (by decide) (by decide), if_neg (by omega)]; exact i1)
  have nC : n ∉ C := fun q => by have := ((hC.mem n).1 q).2; omega
  have K : Gon (LS s) (hasS s) (LS (gbS s4 (n : Int))) (hasS (gbS s4 (n : Int))) n x C := by
    refine ⟨fun a => by rw [g3, m.ls], fun a => ?_, fun a => ?_, fun a j h0 h2 h3 h9 => ?_, ring_like r4 fun c _ => ⟨by rw [g4, if_neg (by omega)], by rw [g4, if_neg (by omega)]⟩, fun a ha => ?_⟩
    · rw [g4, if_neg (by omega), v4 a 0 (by decide) (by decide)]
      by_cases q : a ∈ C
      · rw [if_pos ⟨rfl, q⟩, if_pos q]
      · rw [if_neg (fun z => q z.2), if_neg q]
    · rw [g4]
      by_cases q : a = itF (hasS s) n
      · rw [if_pos ⟨q, rfl⟩, if_pos q]
      · rw [if_neg (fun z => q z.1), if_neg q, v4 a 9 (by decide) (by decide), if_neg (by omega)]
    · rw [g4, if_neg (fun z => h9 z.2), v4 a j h2 h3, if_neg (fun z => h0 z.1)]
    · have hq : a ∉ n :: (C ++ x) := fun q => ha (by
        rcases List.mem_cons.1 q with q | q
        · rw [q]; simp
        · rcases List.mem_append.1 q with q | q
          · exact List.mem_append_right _ q
          · exact List.mem_append_left _ (List.mem_cons_of_mem _ q))
      have z := l4.out a hq
      have y := o3 a ha
      exact ⟨by rw [g4, if_neg (by omega)]; exact z.1.trans y.1, by rw [g4, if_neg (by omega)]; exact z.2.trans y.2⟩
  refine ⟨⟨h.gone hC K, od.gone K, Fb.gone h fb hC K⟩, ⟨by rw [g2]; exact cnt_sm ok m, ?_, K.ls, K.it, by rw [K.e9, if_pos rfl], fun a j hj hne => ?_, fun a ha hne j => ?_, mks_gone h K, fun q => h.sep n nH _ q rfl⟩, g1⟩
  · unfold gbS; rw [give_most, set_most]; exact m.most
  · by_cases q : j = 9
    · subst q
      rw [K.e9, if_neg (fun z => hne ⟨z, rfl⟩)]
    · exact K.oth a j (by omega) (by omega) (by omega) q
  · have aC : a ∉ C := fun q => ha ((hC.mem a).1 q).1
    have ao := K.out a (fun q => by
      rcases List.mem_append.1 q with q | q
      · exact ha ((h.top.mem a).1 q).1
      · exact aC q)
    by_cases h0 : j = 0
    · subst h0; rw [K.e0, if_neg aC]
    · by_cases h9 : j = 9
      · subst h9; rw [K.e9, if_neg hne]
      · by_cases h2 : j = 2
        · subst h2; exact ao.1
        · by_cases h3 : j = 3
          · subst h3; exact ao.2
          · exact K.oth a j h0 h2 h3 h9
theorem map_nd {g : Nat → Nat} : ∀ {l : List Nat}, l.Nodup → (∀ a ∈ l, ∀ b ∈ l, g a = g b → a = b) → (l.map g).Nodup
  | [], _, _ => by simp
  | c :: r, hn, h => by
    rw [List.nodup_cons] at hn
    rw [List.map_cons, List.nodup_cons]
    refine ⟨fun q => ?_, map_nd hn.2 fun a ha b hb => h a (by simp [ha]) b (by simp [hb])⟩
    obtain ⟨d, hd, e⟩ := List.mem_map.1 q
    exact hn.1 (h d (by simp [hd]) c (by simp) e ▸ hd)
theorem tops_15 {s : St} {H T : List Nat} (h : Gh s H T) (hH : H.length ≤ 1000) (un : ∀ a ∈ T, ∀ b ∈ T, hasS s a 4 = hasS s b 4 → a = b) : T.length ≤ 15 := by
  have rk : ∀ a ∈ T, ∃ r : Nat, hasS s a 4 = (r : Int) ∧ r ≤ 14 := fun a ha => rank_14 h.fh h.fb hH ((h.fh.top.mem a).1 ha).1
  have h1 := map_nd (g := fun a => (hasS s a 4).toNat) h.fh.top.nd fun a ha b hb e => by
    obtain ⟨r, e1, _⟩ := rk a ha
    obtain ⟨q, e2, _⟩ := rk b hb
    refine un a ha b hb ?_
    rw [e1, e2] at e ⊢
    simp at e
    rw [e]
  have h2 := nodup_sub_len (H := List.range 15) h1 fun c hc => by
    obtain ⟨a, ha, e⟩ := List.mem_map.1 hc
    obtain ⟨r, e1, e2⟩ := rk a ha
    rw [List.mem_range, ← e, e1]
    simp; omega
  rw [List.length_map, List.length_range] at h2
  exact h2

section
variable {F : Nat → Prop} {w w' : World} {pa pm : Nat} {s : St} {H : List Nat}
set_option maxHeartbeats 4000000 in
theorem removeT (n : Nat) (x : List Nat) (h : Gh s H (n :: x)) (hH : H.length ≤ 1000) (ok : Ok s) (hA : IsA w F pa pm s) (hs : s.steps ≤ 98000000) :
    Calls Tryz.prog 44 #[.pointer (some ⟨pa, 0, none⟩), .int .i64 (n : Int)] w fun e w' =>
      ∃ (s' : St) (T' : List Nat), e = .returned (.int .i64 (hdL T')) ∧ Rmd s s' H n T' ∧ Aft F w w' pa pm s' ∧ s.steps ≤ s'.steps ∧ s'.steps + 32 * T'.length ≤ s.steps + 32 * (x.length + 1) + 720 := by
  obtain ⟨nH, n0⟩ := (h.fh.top.mem n).1 (by simp)
  obtain ⟨C, kC, c1, c4⟩ := h.fh.ch n nH
  have hC14 : C.length ≤ 14 := by
    obtain ⟨r, e, hr⟩ := rank_14 h.fh h.fb hH nH
    omega
  have sub : ∀ c ∈ C, c ∈ H := fun c hc => ((kC.mem c).1 hc).1
  have xlen : x.length + 1 ≤ 1000 := by
    have := nodup_sub_len h.fh.top.nd fun c hc => ((h.fh.top.mem c).1 hc).1
    rw [List.length_cons] at this; omega
  have lc : ∀ c ∈ C, LS s c = true := fun c hc => h.fh.ln c (sub c hc)
  have lx : ∀ c ∈ n :: x, LS s c = true := fun c hc => h.fh.ln c ((h.fh.top.mem c).1 hc).1
  have hd1 : cellS s (n : Int) 1 = hdL C := by
    cases C with
    | nil => exact cell_neg (j := 1) (h.fh.ln n nH) (by decide) c1
    | cons c y => exact cell_nat (j := 1) ok (h.fh.ln n nH) (by decide) c1 (lc c (by simp))
  have CH := hid (fchildT n C hd1 kC.rg kC.nd lc (fun c hc => cell_nat (j := 0) ok (lc c hc) (by decide) ((kC.mem c).1 hc).2 (h.fh.ln n nH)) ok (by omega) hA (by omega))
  have UV := hid (un_view C (s := tk s (1 + 3 * C.length)) (Sm.tk ok _).ok lc)
  have dis : ∀ c ∈ C, c ∉ n :: x := fun c hc q => by have := ((kC.mem c).1 hc).2; have := ((h.fh.top.mem c).1 q).2; omega
  have ndCx : (n :: (C ++ x)).Nodup := by
    have t := List.nodup_cons.1 h.fh.top.nd
    rw [List.nodup_cons, List.nodup_append]
    exact ⟨fun q => (List.mem_append.1 q).elim (fun q => dis n q (by simp)) t.1, kC.nd, t.2, fun a ha b hb e => dis a ha (by rw [e]; simp [hb])⟩
  have hlenT : (C ++ x).length ≤ 1014 := by rw [List.length_append]; omega
  have G0 := hid h
  have KC := hid kC
  have OK := hid ok
  have HFL := hid hA.lt
  have LN := hid (h.fh.ln n nH)
  have NH := hid nH
  have N3 := hid ndCx
  have DIS := hid dis
  have LC := hid lc
  have LX := hid lx
  have CL := hid (show ∀ a ∈ C ++ x, LS s a = true from fun a ha => (List.mem_append.1 ha).elim (lc a) fun q => lx a (by simp [q]))
  have hnl : (nd1 C).length = C.length := nd1_len C
  have HNL := hid hnl
  clear h kC ok hA nH n0 c1 c4 sub lc lx hd1 dis ndCx hnl
  go_enter Tryz.func44, Tryz.ntmps44
  go_wp2_with fail
  refine CH.out.mono ?_
  rintro e w1 ⟨v1, rfl, o1, a1, k1⟩
  obtain ⟨va, vc, rfl⟩ := own_form o1
  have O1 := hid o1
  have A1 := hid a1
  have K1 := hid k1
  rw [HNL.out] at O1 ⊢
  clear o1 a1 k1 CH
  go_wp2_with fail
  go_loopw [14] (fun iv wr => ∃ j : Nat, iv = .int .i64 (j : Int) ∧ j ≤ C.length ∧ Hid (Ex F w wr pa pm (unS (tk s (1 + 3 * C.length)) ((nd1 C).take j))) ∧ Hid (Kept F w1 wr)) (fun iv _ => C.length - (intOf iv).toNat)
  case atStart => exact ⟨0, rfl, Nat.zero_le _, hid ⟨A1.out, K1.out⟩, hid (Kept.refl _ _)⟩
  case round =>
    clear A1 K1
    obtain ⟨j, rfl, hj, hE, hK⟩ := hrel
    have OR := hid (own_kept O1.out hK.out (fun i hi hF => by have := (World.ownsRow.lt O1.out i hi).1; have := HFL.out i hF; omega))
    by_cases hlt : j < C.length
    · have hx : C[j]? = some C[j] := List.getElem?_eq_getElem hlt
      generalize C[j] = y at hx
      have hxn := nd1_at hx
      rcases (Own.lst OR.out) with ⟨a', c', e, y1, y2, y3, y4⟩
      rw [HNL.out] at e
      have e1 : va = a' ∧ vc = c' := by injection e; exact ⟨by assumption, by assumption⟩
      obtain ⟨e1, e2⟩ := e1
      subst e1 e2
      rcases y4 with z | ⟨b, off, e2, hb, hc⟩
      · have h1 : (nd1 C).length = 0 := by rw [z]; rfl
        rw [HNL.out] at h1
        omega
      · subst e2
        have c1 : wr.cell? ⟨b, off + j, none⟩ = some (.int .i64 (y : Int)) := hc _ _ hxn
        have hlt' : (j : Int) < (C.length : Int) := by omega
        have TK := hid (show (nd1 C).take (j + 1) = (nd1 C).take j ++ [(y : Int)] by rw [List.take_add_one, hxn]; rfl)
        have hjt : ((nd1 C).take j).length = j := by rw [List.length_take, HNL.out]; omega
        have S1 := hid (setT (y : Int) 0 (-1) hE.out (by rw [un_steps, hjt]; show s.steps + _ + j ≤ _; omega))
        rw [← un_snoc, ← TK.out] at S1
        generalize mayS (unS (tk s (1 + 3 * C.length)) ((nd1 C).take j)) (y : Int) 0 = bb at S1
        have K1 := hid (show ∀ w2, Ex F wr w2 pa pm (unS (tk s (1 + 3 * C.length)) ((nd1 C).take (j + 1))) → Kept F w1 w2 from fun w2 e => hK.out.trans' e.kept)
        have S2 := hid (setT (y : Int) 0 (-1) (Ex.start hE.out.is) (by rw [un_steps, hjt]; show s.steps + _ + j ≤ _; omega))
        rw [← un_snoc, ← TK.out] at S2
        clear hx hxn hc e y1 y2 y3 TK hjt S1
        go_wp2_with fail
        refine S2.out.mono ?_
        rintro e w2 ⟨rfl, h2⟩
        have H2 := hid (show Ex F w w2 pa pm _ from ⟨h2.is, hE.out.kept.trans' h2.kept⟩)
        have K2 := hid (K1.out w2 h2)
        clear h2 S2 K1 hE hK
        go_wp2
        go_roundw
        case rel => exact ⟨j + 1, by go_num, by omega, H2, K2⟩
        case measure => simp [intOf]; omega
    · obtain rfl : j = C.length := by omega
      rw [show (nd1 C).take C.length = nd1 C by rw [← HNL.out, List.take_length]] at hE
      obtain ⟨uv1, uv2⟩ := UV.out
      have hst : (unS (tk s (1 + 3 * C.length)) (nd1 C)).steps = s.steps + 1 + 4 * C.length := by rw [un_steps, HNL.out]; show s.steps + (1 + 3 * C.length) + C.length = _; omega
      have MU := hid ((Sm.tk OK.out (1 + 3 * C.length)).trans uv1)
      have VU := hid (show ∀ a j, hasS (unS (tk s (1 + 3 * C.length)) (nd1 C)) a j = if j = 0 ∧ a ∈ C then -1 else hasS s a j from uv2)
      clear uv1 uv2 hlt
      generalize unS (tk s (1 + 3 * C.length)) (nd1 C) = s2 at *
      have rx : Ring (hasS s2) (n :: x) := ring_like G0.out.fh.top.rg fun c hc => ⟨by rw [VU.out, if_neg (by omega)], by rw [VU.out, if_neg (by omega)]⟩
      have RX := hid rx
      clear rx
      by_cases hC0 : C = []
      · obtain ⟨hl0, hl0'⟩ : C.length = 0 ∧ decide ((0 : Int) < (C.length : Int)) = false := by rw [hC0]; simp
        have hl00 : (C.length : Int) ≤ 0 := by omega
        obtain ⟨s3, hs3⟩ : ∃ s3, s3 = s2 := ⟨_, rfl⟩
        have M3 := hid (show Sm s s3 by rw [hs3]; exact MU.out)
        have E3 := hid (show Ex F w wr pa pm s3 by rw [hs3]; exact hE.out)
        have R3 := hid (show Ring (hasS s3) (n :: (C ++ x)) by rw [hs3, hC0]; exact RX.out)
        have F3 := hid (show ∀ a j, j ≠ 2 → j ≠ 3 → hasS s3 a j = if j = 0 ∧ a ∈ C then -1 else hasS s a j from fun a j _ _ => by rw [hs3]; exact VU.out a j)
        have O3 := hid (show ∀ a, a ∉ (n :: x) ++ C → hasS s3 a 2 = hasS s a 2 ∧ hasS s3 a 3 = hasS s a 3 from fun a _ => by rw [hs3]; exact ⟨by rw [VU.out, if_neg (by omega)], by rw [VU.out, if_neg (by omega)]⟩)
        have hst3 : s3.steps ≤ s.steps + 1 + 4 * C.length + 8 ∧ s.steps ≤ s3.steps := by rw [hs3]; omega
        obtain ⟨hst3a, hst3b⟩ := hst3
        have HC0 := hid hC0
        clear hs3 hE MU VU RX hst hC0
        have OU := hid (routT (s := s3) n (C ++ x) R3.out N3.out (fun a ha => by
          rw [M3.out.ls]
          rcases List.mem_cons.1 ha with e | ha
          · rw [e]; exact LN.out
          · exact CL.out a ha) M3.out.ok (Ex.start E3.out.is) (by omega))
        obtain ⟨wq, rfl⟩ : ∃ wq, wq = wr := ⟨_, rfl⟩
        have hwz : w.heap.size ≤ wq.heap.size := E3.out.kept.size
        go_wp2_with fail
        refine OU.out.mono ?_
        rintro e w4 ⟨rfl, s4, e4, m4, st4, r4, r4', l4⟩
        have GN := hid (gon_of G0.out.fh KC.out LN.out (M3.out.trans m4) F3.out O3.out r4 l4 G0.out.od G0.out.fb OK.out)
        have ST4 := hid st4
        have GB := hid (giveBackT (n : Int) (Aft.start e4.is) (by omega))
        have K4 := hid (E3.out.kept.trans' e4.kept)
        have hz4 : w.heap.size ≤ w4.heap.size := K4.out.size
        clear OU e4 m4 st4 r4 r4' l4
        obtain ⟨nx, hnx⟩ : ∃ nx, nx = hdL (C ++ x) := ⟨_, rfl⟩
        have NX := hid hnx
        rw [← hnx]
        clear hnx
        go_wp2_with fail
        refine GB.out.mono ?_
        rintro e w5 ⟨rfl, h5⟩
        obtain ⟨g1, g2, g3⟩ := GN.out
        have GH := hid g1
        have GP := hid g2
        have GOK := hid g3
        have RT := hid (show (gbS s4 (n : Int)).steps = s3.steps + 8 + 3 by rw [gb_steps, ST4.out])
        obtain ⟨G, hG⟩ : ∃ G, G = Grow F w4 w5 := ⟨_, rfl⟩
        have A5 := hid h5.is
        have K5 := hid (K4.out.trans' h5.kept)
        have hz5 : w4.heap.size ≤ w5.heap.size := h5.kept.size
        have GW := hid (show ∀ i, G i → F i ∨ (w4.heap.size ≤ i ∧ i < w5.heap.size) by rw [hG]; exact fun i q => q)
        rw [← hG] at A5
        have FR := hid (fringT (F := G) (s := gbS s4 (n : Int)) (C ++ x) (-1) g1.fh.top.rg g1.fh.top.nd (fun a ha => g1.fh.ln a ((g1.fh.top.mem a).1 ha).1) (fun a ha => cell_neg (j := 0) (g1.fh.ln a ((g1.fh.top.mem a).1 ha).1) (by decide) ((g1.fh.top.mem a).1 ha).2) g3 (by have := hlenT; omega) A5.out (by rw [RT.out]; omega))
        rw [← NX.out] at FR
        clear g1 g2 g3 h5 GB hG K4
        go_wp2_with fail
        refine FR.out.mono ?_
        rintro e w6 ⟨v6, rfl, o6, a6, k6⟩
        obtain ⟨b6, bc6, rfl⟩ := own_form o6
        have MG := hid (mergeT (F := G) (s := tk (gbS s4 (n : Int)) (3 * (C ++ x).length)) (C ++ x) _ (GH.out.tk _) (fun c => Iff.rfl) GH.out.fh.top.nd (by rw [List.length_erase_of_mem NH.out]; omega) (Sm.tk GOK.out _).ok (Own.lst o6) (fun a m c e hF => by
          rw [show (Value.slice b6 (nd1 (C ++ x)).length bc6) = .slice (some a) m c from e] at o6
          have := (World.ownsRow.lt o6 a.block rfl).1
          have := A5.out.lt _ hF
          omega) a6 (by show (gbS s4 (n : Int)).steps + _ ≤ _; rw [RT.out]; omega))
        have K6 := hid k6
        clear o6 a6 k6 FR
        go_wp2_with fail
        refine MG.out.mono ?_
        rintro e w7 ⟨s', T', rfl, g7, l7, a7, k7, p7, m7, t1, t2, un⟩
        have H7 := hid (gon_end GOK.out ⟨GP.out.num, GP.out.most, GP.out.ls, GP.out.it, GP.out.free, GP.out.key, GP.out.out, GP.out.mrk, GP.out.nin⟩ ((Kp.tk GOK.out _ _).trans p7) g7 l7 m7)
        have T15 := tops_15 g7 (by rw [List.length_erase_of_mem NH.out]; omega) un
        have ST7 : Hid (s.steps ≤ s'.steps ∧ s'.steps + 32 * T'.length ≤ s.steps + 32 * (x.length + 1) + 720) := hid (by
          have t1' : (gbS s4 (n : Int)).steps + 3 * (C ++ x).length ≤ s'.steps := t1
          have t2' : s'.steps + 28 * T'.length ≤ (gbS s4 (n : Int)).steps + 3 * (C ++ x).length + 29 * (C ++ x).length + 132 := t2
          rw [RT.out] at t1' t2'
          rw [List.length_append] at t1' t2'
          omega)
        have K7 : Kept G w5 w7 := K6.out.trans' k7
        have A7 := hid (show Aft F w w7 pa pm s' from by
          have hz7 : w5.heap.size ≤ w7.heap.size := K7.size
          refine ⟨a7.widen (fun i hi => (GW.out i hi).imp id fun q => ⟨by omega, by omega⟩) (Grow.lt HFL.out (by omega)), K5.out.trans (K7.mono fun i hi => (GW.out i hi).imp id fun q => ⟨by omega, by omega⟩), HFL.out⟩)
        clear g7 l7 a7 k7 p7 m7 t1 t2 un K7 MG
        go_wp2
        go_ret
        exact ⟨s', T', rfl, H7.out, A7.out, ST7.out.1, ST7.out.2⟩
      · obtain ⟨c, y, hcy⟩ : ∃ c y, C = c :: y := by
          cases C with
          | nil => exact absurd rfl hC0
          | cons c y => exact ⟨c, y, rfl⟩
        have hl0 : (0 : Int) < (C.length : Int) := by rw [hcy]; simp only [List.length_cons]; omega
        have hx : C[0]? = some c := by rw [hcy]; rfl
        have hxn := nd1_at hx
        rcases (Own.lst OR.out) with ⟨a', c', e, y1, y2, y3, y4⟩
        rw [HNL.out] at e
        have e1 : va = a' ∧ vc = c' := by injection e; exact ⟨by assumption, by assumption⟩
        obtain ⟨e1, e2⟩ := e1
        subst e1 e2
        rcases y4 with z | ⟨b, off, e2, hb, hc⟩
        · have h1 : (nd1 C).length = 0 := by rw [z]; rfl
          rw [HNL.out] at h1
          omega
        · subst e2
          have c1 : wr.cell? ⟨b, off, none⟩ = some (.int .i64 (c : Int)) := by have := hc 0 _ hxn; rwa [Nat.add_zero] at this
          have JN := hid (rjoinT (s := s2) n x c y RX.out (by
            rw [← hcy]
            exact ring_like KC.out.rg fun d _ => ⟨by rw [VU.out, if_neg (by omega)], by rw [VU.out, if_neg (by omega)]⟩) (by
            rw [← hcy, List.nodup_append]
            exact ⟨G0.out.fh.top.nd, KC.out.nd, fun a ha d hd e => DIS.out d hd (e ▸ ha)⟩) (fun a ha => by
            rw [← hcy] at ha
            rw [MU.out.ls]
            exact (List.mem_append.1 ha).elim (LX.out a) (LC.out a)) MU.out.ok (Ex.start hE.out.is) (by omega))
          have HCY := hid hcy
          clear hx hxn hc e y1 y2 y3 hcy hC0
          go_wp2_with fail
          refine JN.out.mono ?_
          rintro e w3 ⟨rfl, s3, e3, m3, st3, r3, l3⟩
          have l3' : Lnk (hasS s2) (hasS s3) ((n :: x) ++ C) := by rw [HCY.out]; exact l3
          have M3 := hid (MU.out.trans m3)
          have E3 := hid (show Ex F w w3 pa pm s3 from ⟨e3.is, hE.out.kept.trans' e3.kept⟩)
          have R3 := hid (show Ring (hasS s3) (n :: (C ++ x)) by rw [HCY.out]; exact r3)
          have F3 := hid (show ∀ a j, j ≠ 2 → j ≠ 3 → hasS s3 a j = if j = 0 ∧ a ∈ C then -1 else hasS s a j from fun a j h2 h3 => (l3'.oth a j h2 h3).trans (VU.out a j))
          have O3 := hid (show ∀ a, a ∉ (n :: x) ++ C → hasS s3 a 2 = hasS s a 2 ∧ hasS s3 a 3 = hasS s a 3 from fun a ha => ⟨(l3'.out a ha).1.trans (by rw [VU.out, if_neg (by omega)]), (l3'.out a ha).2.trans (by rw [VU.out, if_neg (by omega)])⟩)
          have hst3a : s3.steps ≤ s.steps + 1 + 4 * C.length + 8 := by omega
          have hst3b : s.steps ≤ s3.steps := by omega
          clear e3 m3 st3 r3 l3 l3' JN hE MU VU RX hst hb c1
          have OU := hid (routT (s := s3) n (C ++ x) R3.out N3.out (fun a ha => by
            rw [M3.out.ls]
            rcases List.mem_cons.1 ha with e | ha
            · rw [e]; exact LN.out
            · exact CL.out a ha) M3.out.ok (Ex.start E3.out.is) (by omega))
          obtain ⟨wq, rfl⟩ : ∃ wq, wq = w3 := ⟨_, rfl⟩
          have hwz : w.heap.size ≤ wq.heap.size := E3.out.kept.size
          go_wp2_with fail
          refine OU.out.mono ?_
          rintro e w4 ⟨rfl, s4, e4, m4, st4, r4, r4', l4⟩
          have GN := hid (gon_of G0.out.fh KC.out LN.out (M3.out.trans m4) F3.out O3.out r4 l4 G0.out.od G0.out.fb OK.out)
          have ST4 := hid st4
          have GB := hid (giveBackT (n : Int) (Aft.start e4.is) (by omega))
          have K4 := hid (E3.out.kept.trans' e4.kept)
          have hz4 : w.heap.size ≤ w4.heap.size := K4.out.size
          clear OU e4 m4 st4 r4 r4' l4
          obtain ⟨nx, hnx⟩ : ∃ nx, nx = hdL (C ++ x) := ⟨_, rfl⟩
          have NX := hid hnx
          rw [← hnx]
          clear hnx
          go_wp2_with fail
          refine GB.out.mono ?_
          rintro e w5 ⟨rfl, h5⟩
          obtain ⟨g1, g2, g3⟩ := GN.out
          have GH := hid g1
          have GP := hid g2
          have GOK := hid g3
          have RT := hid (show (gbS s4 (n : Int)).steps = s3.steps + 8 + 3 by rw [gb_steps, ST4.out])
          obtain ⟨G, hG⟩ : ∃ G, G = Grow F w4 w5 := ⟨_, rfl⟩
          have A5 := hid h5.is
          have K5 := hid (K4.out.trans' h5.kept)
          have hz5 : w4.heap.size ≤ w5.heap.size := h5.kept.size
          have GW := hid (show ∀ i, G i → F i ∨ (w4.heap.size ≤ i ∧ i < w5.heap.size) by rw [hG]; exact fun i q => q)
          rw [← hG] at A5
          have FR := hid (fringT (F := G) (s := gbS s4 (n : Int)) (C ++ x) (-1) g1.fh.top.rg g1.fh.top.nd (fun a ha => g1.fh.ln a ((g1.fh.top.mem a).1 ha).1) (fun a ha => cell_neg (j := 0) (g1.fh.ln a ((g1.fh.top.mem a).1 ha).1) (by decide) ((g1.fh.top.mem a).1 ha).2) g3 (by have := hlenT; omega) A5.out (by rw [RT.out]; omega))
          rw [← NX.out] at FR
          clear g1 g2 g3 h5 GB hG K4
          go_wp2_with fail
          refine FR.out.mono ?_
          rintro e w6 ⟨v6, rfl, o6, a6, k6⟩
          obtain ⟨b6, bc6, rfl⟩ := own_form o6
          have MG := hid (mergeT (F := G) (s := tk (gbS s4 (n : Int)) (3 * (C ++ x).length)) (C ++ x) _ (GH.out.tk _) (fun c => Iff.rfl) GH.out.fh.top.nd (by rw [List.length_erase_of_mem NH.out]; omega) (Sm.tk GOK.out _).ok (Own.lst o6) (fun a m c e hF => by
            rw [show (Value.slice b6 (nd1 (C ++ x)).length bc6) = .slice (some a) m c from e] at o6
            have := (World.ownsRow.lt o6 a.block rfl).1
            have := A5.out.lt _ hF
            omega) a6 (by show (gbS s4 (n : Int)).steps + _ ≤ _; rw [RT.out]; omega))
          have K6 := hid k6
          clear o6 a6 k6 FR
          go_wp2_with fail
          refine MG.out.mono ?_
          rintro e w7 ⟨s', T', rfl, g7, l7, a7, k7, p7, m7, t1, t2, un⟩
          have H7 := hid (gon_end GOK.out ⟨GP.out.num, GP.out.most, GP.out.ls, GP.out.it, GP.out.free, GP.out.key, GP.out.out, GP.out.mrk, GP.out.nin⟩ ((Kp.tk GOK.out _ _).trans p7) g7 l7 m7)
          have T15 := tops_15 g7 (by rw [List.length_erase_of_mem NH.out]; omega) un
          have ST7 : Hid (s.steps ≤ s'.steps ∧ s'.steps + 32 * T'.length ≤ s.steps + 32 * (x.length + 1) + 720) := hid (by
            have t1' : (gbS s4 (n : Int)).steps + 3 * (C ++ x).length ≤ s'.steps := t1
            have t2' : s'.steps + 28 * T'.length ≤ (gbS s4 (n : Int)).steps + 3 * (C ++ x).length + 29 * (C ++ x).length + 132 := t2
            rw [RT.out] at t1' t2'
            rw [List.length_append] at t1' t2'
            omega)
          have K7 : Kept G w5 w7 := K6.out.trans' k7
          have A7 := hid (show Aft F w w7 pa pm s' from by
            have hz7 : w5.heap.size ≤ w7.heap.size := K7.size
            refine ⟨a7.widen (fun i hi => (GW.out i hi).imp id fun q => ⟨by omega, by omega⟩) (Grow.lt HFL.out (by omega)), K5.out.trans (K7.mono fun i hi => (GW.out i hi).imp id fun q => ⟨by omega, by omega⟩), HFL.out⟩)
          clear g7 l7 a7 k7 p7 m7 t1 t2 un K7 MG
          go_wp2
          go_ret
          exact ⟨s', T', rfl, H7.out, A7.out, ST7.out.1, ST7.out.2⟩
end
end Go.Proofs.YtckoglddhkbgkabGreat

/- What it is to cut a node off, as plain data. -/
namespace Go.Proofs.YtckoglddhkbgkabGreat
open Go.ChangeShapes Go.WideShapes Go.ChangeAt Go.RowKit
open Tr

/-- but for c -/
def OdX (f : Nat → Nat → Int) (H : List Nat) (c : Nat) : Prop := ∀ d ∈ H, d ≠ c → ∀ p : Nat, f d 0 = (p : Int) → befF f (itF f d) (itF f p) = false
def FbX (f : Nat → Nat → Int) (H : List Nat) (c : Nat) : Prop := ∀ p ∈ H, ∀ D : List Nat, D.Nodup → (∀ d, d ∈ D ↔ d ∈ H ∧ f d 0 = (p : Int)) → ∀ j : Nat, (D.erase c).countP (fun d => decide (f d 4 + f d 5 < (j : Int))) ≤ j
/-- a heap, but for what c is to the node above it -/
structure Ghx (s : St) (H T : List Nat) (c : Nat) : Prop where
  fh : Fh (LS s) (hasS s) H T
  od : OdX (hasS s) H c
  fb : FbX (hasS s) H c
theorem Gh.off {s : St} {H T : List Nat} (h : Gh s H T) (c : Nat) : Ghx s H T c :=
  ⟨h.fh, fun d hd _ p hp => h.od d hd p hp, fun p hp D dn dm j => Nat.le_trans (List.Sublist.countP_le List.erase_sublist) (h.fb p hp D dn dm j)⟩
theorem Ghx.top {s : St} {H T : List Nat} {c : Nat} (h : Ghx s H T c) (h0 : hasS s c 0 = -1) : Gh s H T :=
  ⟨h.fh, fun d hd p hp => h.od d hd (fun e => by subst e; omega) p hp, fun p hp D dn dm j => by
    have := h.fb p hp D dn dm j
    rwa [List.erase_of_not_mem (fun q => by have := ((dm c).1 q).2; omega)] at this⟩
/-- what a cut does: c, a child of u, is a top one behind r -/
structure Cut1 (f g : Nat → Nat → Int) (r u c : Nat) (x y : List Nat) : Prop where
  e0 : ∀ a, g a 0 = if a = c then -1 else f a 0
  e1 : ∀ a, g a 1 = if a = u then hdL y else f a 1
  e4 : ∀ a, g a 4 = if a = u then f u 4 - 1 else f a 4
  e5 : ∀ a j, 5 ≤ j → g a j = f a j
  r1 : Ring g (r :: c :: x)
  r2 : Ring g y
  out : ∀ a, a ∉ (r :: x) ++ (c :: y) → g a 2 = f a 2 ∧ g a 3 = f a 3
section
variable {L : Nat → Bool} {f g : Nat → Nat → Int} {H x y : List Nat} {r u c : Nat}
theorem Cut1.it (k : Cut1 f g r u c x y) : itF g = itF f := by funext a; unfold itF; rw [k.e5 a 6 (by decide)]
theorem Fh.cut (h : Fh L f H (r :: x)) (hy : Kd f H (u : Int) (c :: y)) (uH : u ∈ H) (k : Cut1 f g r u c x y) : Fh L g H (r :: c :: x) := by
  obtain ⟨cH, c0⟩ := (hy.mem c).1 (by simp)
  have yn := List.nodup_cons.1 hy.nd
  have hcu : c ≠ u := fun e => by
    obtain ⟨ht, hh⟩ := h.ht
    have := hh c cH u c0
    rw [e] at this; omega
  have cT : c ∉ r :: x := fun q => by have := ((h.top.mem c).1 q).2; omega
  have ulen : f u 4 = ((c :: y).length : Int) := by
    obtain ⟨D, d1, _, d3⟩ := h.ch u uH
    rw [d3, ((kid_perm h.nd d1).trans (kid_perm h.nd hy).symm).length_eq]
  refine ⟨h.nd, h.ln, fun a ha => ?_, ?_, fun a ha => ?_, fun a ha => ?_, ⟨k.r1, ?_, fun d => ?_⟩, fun p hp => ?_, ?_⟩
  · rw [k.it, k.e5 a 6 (by decide), k.e5 _ 9 (by decide)]; exact h.it a ha
  · rw [k.it]; exact h.sep
  · rw [k.e0]
    by_cases e : a = c
    · rw [if_pos e]; exact Or.inl rfl
    · rw [if_neg e]; exact h.up a ha
  · rw [k.e5 a 5 (by decide)]; exact h.mrk a ha
  · have tn := List.nodup_cons.1 h.top.nd
    rw [List.nodup_cons, List.nodup_cons, List.mem_cons]
    exact ⟨fun q => q.elim (fun e => cT (by simp [← e])) tn.1, fun q => cT (by simp [q]), tn.2⟩
  · have hm : d ∈ r :: c :: x ↔ d = c ∨ d ∈ r :: x := by simp only [List.mem_cons]; constructor <;> (rintro (q | q | q) <;> simp [q])
    rw [hm, k.e0]
    by_cases e : d = c
    · subst e; rw [if_pos rfl]; exact ⟨fun _ => ⟨cH, rfl⟩, fun _ => Or.inl rfl⟩
    · rw [if_neg e, ← h.top.mem d]; exact ⟨fun q => q.resolve_left e, Or.inr⟩
  · by_cases e : p = u
    · subst e
      refine ⟨y, ⟨k.r2, yn.2, fun d => ?_⟩, by rw [k.e1, if_pos rfl], by rw [k.e4, if_pos rfl, ulen, List.length_cons]; omega⟩
      rw [k.e0]
      by_cases e : d = c
      · subst e; rw [if_pos rfl]; exact ⟨fun q => absurd q yn.1, fun q => by omega⟩
      · rw [if_neg e, ← hy.mem d, List.mem_cons]; exact ⟨Or.inr, fun q => q.resolve_left e⟩
    · obtain ⟨D, d1, d2, d3⟩ := h.ch p hp
      refine ⟨D, ⟨ring_like d1.rg fun d hd => ?_, d1.nd, fun d => ?_⟩, by rw [k.e1, if_neg e]; exact d2, by rw [k.e4, if_neg e]; exact d3⟩
      · have z := ((d1.mem d).1 hd).2
        have := k.out d (fun q => by
          rcases List.mem_append.1 q with q | q
          · have := ((h.top.mem d).1 q).2; omega
          · have := ((hy.mem d).1 q).2; omega)
        exact ⟨this.2, this.1⟩
      · rw [d1.mem d, k.e0]
        by_cases q : d = c
        · subst q; rw [if_pos rfl]; exact ⟨fun z => by omega, fun z => by omega⟩
        · rw [if_neg q]
  · obtain ⟨ht, hh⟩ := h.ht
    refine ⟨ht, fun d hd p hp => ?_⟩
    rw [k.e0] at hp
    by_cases q : d = c
    · rw [if_pos q] at hp; omega
    · rw [if_neg q] at hp; exact hh d hd p hp
theorem Od.cut (h : OdX f H c) (k : Cut1 f g r u c x y) : Od g H := by
  have e : befF g = befF f := by funext a d; unfold befF; rw [k.e5 a 7 (by decide), k.e5 a 8 (by decide), k.e5 d 7 (by decide), k.e5 d 8 (by decide)]
  intro d hd p hp
  rw [k.e0] at hp
  rw [e, k.it]
  by_cases q : d = c
  · rw [if_pos q] at hp; omega
  · rw [if_neg q] at hp; exact h d hd q p hp
/-- behind the cut u has one child less -/
theorem Fb.cut (h : Fh L f H (r :: x)) (b : FbX f H c) (hy : Kd f H (u : Int) (c :: y)) (k : Cut1 f g r u c x y) {v : Nat → Int} (hv : ∀ d ∈ H, d ≠ u → v d = g d 4 + g d 5) (hu : v u = g u 4 + g u 5 + 1) :
    ∀ p ∈ H, ∀ D : List Nat, D.Nodup → (∀ d, d ∈ D ↔ d ∈ H ∧ g d 0 = (p : Int)) → ∀ j : Nat, D.countP (fun d => decide (v d < (j : Int))) ≤ j := by
  obtain ⟨cH, c0⟩ := (hy.mem c).1 (by simp)
  have _ := h.nd
  intro p hp D dn dm j
  have val : ∀ d ∈ D, v d = f d 4 + f d 5 := fun d hd => by
    have dH := ((dm d).1 hd).1
    by_cases q : d = u
    · subst q; rw [hu, k.e4, if_pos rfl, k.e5 d 5 (by decide)]; omega
    · rw [hv d dH q, k.e4, if_neg q, k.e5 d 5 (by decide)]
  have cD : c ∉ D := fun q => by have := ((dm c).1 q).2; rw [k.e0, if_pos rfl] at this; omega
  rw [show D.countP (fun d => decide (v d < (j : Int))) = D.countP (fun d => decide (f d 4 + f d 5 < (j : Int))) from List.countP_congr fun d hd => by rw [val d hd]]
  by_cases e : p = u
  · subst e
    have := b p hp (c :: D) (List.nodup_cons.2 ⟨cD, dn⟩) (fun d => by
      rw [List.mem_cons, dm d, k.e0]
      by_cases q : d = c
      · subst q; rw [if_pos rfl]; exact ⟨fun _ => ⟨cH, c0⟩, fun _ => Or.inl rfl⟩
      · rw [if_neg q]; exact ⟨fun z => z.resolve_left q, Or.inr⟩) j
    rwa [List.erase_cons_head] at this
  · have := b p hp D dn (fun d => by
      rw [dm d, k.e0]
      by_cases q : d = c
      · subst q; rw [if_pos rfl]; exact ⟨fun z => by omega, fun z => by omega⟩
      · rw [if_neg q]) j
    rwa [List.erase_of_not_mem cD] at this
theorem mks_cut (cH : c ∈ H) (hn : H.Nodup) (c0 : f c 0 ≠ -1) (k : Cut1 f g r u c x y) : mks g H + (if f c 5 = 1 then 1 else 0) = mks f H := by
  have pm := List.perm_cons_erase cH
  unfold mks
  rw [pm.countP_eq, pm.countP_eq, List.countP_cons, List.countP_cons, k.e0, if_pos rfl, k.e5 c 5 (by decide)]
  have e : (H.erase c).countP (fun d => decide (g d 0 ≠ -1 ∧ g d 5 = 1)) = (H.erase c).countP (fun d => decide (f d 0 ≠ -1 ∧ f d 5 = 1)) := List.countP_congr fun d hd => by
    have := (hn.mem_erase_iff.1 hd).1
    rw [k.e0, if_neg this, k.e5 d 5 (by decide)]
  rw [e]
  by_cases q : f c 5 = 1
  · rw [if_pos q]; simp [c0, q]
  · rw [if_neg q]; simp [q]
end
/-- a Mark -/
theorem mark_gh {s s' : St} {H T : List Nat} {u : Nat} (h : Fh (LS s) (hasS s) H T) (od : Od (hasS s) H) (hl : LS s' = LS s) (hv : hasS s' = put (hasS s) u 5 1)
    (hb : ∀ p ∈ H, ∀ D : List Nat, D.Nodup → (∀ d, d ∈ D ↔ d ∈ H ∧ hasS s d 0 = (p : Int)) → ∀ j : Nat, D.countP (fun d => decide ((if d = u then hasS s u 4 + 1 else hasS s d 4 + hasS s d 5) < (j : Int))) ≤ j) : Gh s' H T := by
  have o : ∀ a j, j ≠ 5 → hasS s' a j = hasS s a j := fun a j hj => by rw [hv, put_nj hj]
  have it : itF (hasS s') = itF (hasS s) := by funext a; unfold itF; rw [o a 6 (by decide)]
  have kd : ∀ {p : Int} {C : List Nat}, Kd (hasS s) H p C → Kd (hasS s') H p C := fun k => ⟨ring_like k.rg fun c _ => ⟨o c 3 (by decide), o c 2 (by decide)⟩, k.nd, fun c => by rw [o c 0 (by decide)]; exact k.mem c⟩
  refine ⟨⟨h.nd, fun a ha => by rw [hl]; exact h.ln a ha, fun a ha => by rw [it, hl, o a 6 (by decide), o _ 9 (by decide)]; exact h.it a ha, by rw [it]; exact h.sep, fun a ha => by rw [o a 0 (by decide)]; exact h.up a ha, fun a ha => ?_, kd h.top, fun p hp => ?_, ?_⟩, fun d hd p hp => ?_, fun p hp D dn dm j => ?_⟩
  · rw [hv]
    by_cases e : a = u
    · rw [e, put_at]; exact Or.inr rfl
    · rw [put_ne e]; exact h.mrk a ha
  · obtain ⟨D, d1, d2, d3⟩ := h.ch p hp
    exact ⟨D, kd d1, by rw [o p 1 (by decide)]; exact d2, by rw [o p 4 (by decide)]; exact d3⟩
  · obtain ⟨ht, hh⟩ := h.ht
    exact ⟨ht, fun c hc p hp => hh c hc p (by rw [← o c 0 (by decide)]; exact hp)⟩
  · have e : befF (hasS s') = befF (hasS s) := by funext a c; unfold befF; rw [o a 7 (by decide), o a 8 (by decide), o c 7 (by decide), o c 8 (by decide)]
    rw [e, it]
    exact od d hd p (by rw [← o d 0 (by decide)]; exact hp)
  · have := hb p hp D dn (fun d => by rw [dm d, o d 0 (by decide)]) j
    rw [show D.countP (fun c => decide (hasS s' c 4 + hasS s' c 5 < (j : Int))) = D.countP (fun d => decide ((if d = u then hasS s u 4 + 1 else hasS s d 4 + hasS s d 5) < (j : Int))) from List.countP_congr fun d _ => by
      rw [o d 4 (by decide), hv]
      by_cases e : d = u
      · subst e; rw [if_pos rfl, put_at]
      · rw [if_neg e, put_ne e]]
    exact this
theorem mark_mks {f : Nat → Nat → Int} {H : List Nat} {u : Nat} (uH : u ∈ H) (hn : H.Nodup) (h0 : f u 0 ≠ -1) (h5 : f u 5 = 0) : mks (put f u 5 1) H = mks f H + 1 := by
  have pm := List.perm_cons_erase uH
  unfold mks
  rw [pm.countP_eq, pm.countP_eq, List.countP_cons, List.countP_cons, put_at, put_nj (by decide)]
  have e : (H.erase u).countP (fun d => decide (put f u 5 1 d 0 ≠ -1 ∧ put f u 5 1 d 5 = 1)) = (H.erase u).countP (fun d => decide (f d 0 ≠ -1 ∧ f d 5 = 1)) := List.countP_congr fun d hd => by
    rw [put_ne (hn.mem_erase_iff.1 hd).1]
  rw [e]
  simp [h0, h5]
end Go.Proofs.YtckoglddhkbgkabGreat
