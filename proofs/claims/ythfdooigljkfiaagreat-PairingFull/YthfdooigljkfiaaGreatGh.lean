/- Several texts in one. -/
import Derived.Test.YthfdooigljkfiaaGreatGg
import Derived.Test.YthfdooigljkfiaaGreatGc
/- Which item is the least; what the calls answer, over heaps and lists. -/
namespace Go.Proofs.YthfdooigljkfiaaGreat
open Go.ChangeShapes Go.WideShapes Go.ChangeAt Go.RowKit
open Tr

theorem bts_self : ∀ n : Nat, bts n ≤ n := fun n => bts_le n n (Nat.lt_two_pow_self)
theorem bef_low {f : Nat → Nat → Int} {i j : Nat} {v : Int} (hv : v ≤ f i 7) (hj : j ≠ i) (h : befF f j i = false) : befF (put f i 7 v) j i = false := by
  have e1 : put f i 7 v j = f j := put_ne hj
  have e2 : put f i 7 v i 7 = v := put_at
  have e3 : put f i 7 v i 8 = f i 8 := put_nj (by decide)
  simp only [befF, bef, e1, e2, e3] at h ⊢
  simp at h ⊢
  omega
theorem bef_other {f : Nat → Nat → Int} {i a b : Nat} {v : Int} (ha : a ≠ i) (hb : b ≠ i) : befF f a b = befF (put f i 7 v) a b := by
  unfold befF; rw [put_ne ha, put_ne hb]

theorem befF_ne {f : Nat → Nat → Int} {a b : Nat} (h : a ≠ b) : befF f a b = true ∨ befF f b a = true := by
  simp [befF, bef]; omega
theorem befF_self (f : Nat → Nat → Int) (a : Nat) : befF f a a = false := by simp [befF, bef]
theorem befH_tot : (∀ x y, befH x y = true → befH y x = false) ∧ (∀ x y z, befH y x = false → befH z y = false → befH z x = false) ∧ (∀ x, befH x x = false) := by
  refine ⟨fun x y h => ?_, fun x y z h1 h2 => ?_, fun x => ?_⟩
  · simp [befH, bef] at h ⊢; omega
  · simp [befH, bef] at h1 h2 ⊢; omega
  · simp [befH, bef]
theorem lst_least (L : List (Nat × Int × Int)) : ∀ j, j < L.length → ∃ y, L[lstS L j]? = some y ∧ ∀ m ≤ j, ∀ x, L[m]? = some x → befH x y = false
  | 0, h => by
    refine ⟨L[0], List.getElem?_eq_getElem h, fun m hm x hx => ?_⟩
    obtain rfl : m = 0 := by omega
    rw [List.getElem?_eq_getElem h] at hx
    injection hx with hx
    subst hx
    exact befH_tot.2.2 _
  | j + 1, h => by
    obtain ⟨y, hy, hl⟩ := lst_least L j (by omega)
    have hx : L[j + 1]? = some L[j + 1] := List.getElem?_eq_getElem h
    unfold lstS
    rw [hx, hy]
    simp only
    by_cases q : befH L[j + 1] y = true
    · rw [if_pos q]
      refine ⟨L[j + 1], hx, fun m hm x hm' => ?_⟩
      by_cases e : m = j + 1
      · subst e; rw [hx] at hm'; injection hm' with hm'; subst hm'; exact befH_tot.2.2 _
      · exact befH_tot.2.1 _ y x (befH_tot.1 _ _ q) (hl m (by omega) x hm')
    · rw [if_neg q]
      refine ⟨y, hy, fun m hm x hm' => ?_⟩
      by_cases e : m = j + 1
      · subst e; rw [hx] at hm'; injection hm' with hm'; subst hm'; simpa using q
      · exact hl m (by omega) x hm'
theorem split_at {α : Type} {L : List α} {k : Nat} {y : α} (h : L[k]? = some y) : L = L.take k ++ y :: L.drop (k + 1) ∧ (L.take k).length = k := by
  obtain ⟨hk, e⟩ := List.getElem?_eq_some_iff.1 h
  subst e
  exact ⟨by rw [← List.drop_eq_getElem_cons hk, List.take_append_drop], by simp; omega⟩
theorem nd_items {L : Nat → Bool} {f : Nat → Nat → Int} : ∀ {t : Tr} {up q : Int}, Vp L f up q t → t.cells.Nodup → t.items.Nodup
  | lf, _, _, _, _ => List.nodup_nil
  | nd n i k r, _, _, hv, hn => by
    have hd := hn
    simp only [cells, List.nodup_cons, List.mem_cons, List.mem_append, List.nodup_append, not_or] at hd
    obtain ⟨⟨n1, n2, n3⟩, ⟨n4, n5⟩, n6, n7, n8⟩ := hd
    simp only [items, List.nodup_cons, List.mem_append, List.nodup_append, not_or]
    exact ⟨⟨fun z => n4 (item_cell z), fun z => n5 (item_cell z)⟩, nd_items hv.2.1 n6, nd_items hv.2.2 n7, fun a ha b hb => n8 a (item_cell ha) b (item_cell hb)⟩
theorem hh_nodup {s : St} {t : Tr} {L : List (Nat × Int × Int)} (h : Hh s t L) : (L.map fun x => x.1).Nodup := h.pm.nodup_iff.2 (nd_items h.hp.vp h.hp.nod)
/-- the least is the root's item -/
theorem least_item {s : St} {t : Tr} {L : List (Nat × Int × Int)} {n i : Nat} {k r : Tr} (h : Hh s t L) (ht : t = nd n i k r) : ∃ y, L[lstS L (L.length - 1)]? = some y ∧ y.1 = i := by
  subst ht
  have hr : r = lf := h.hp.top.resolve_left (fun e => by cases e)
  subst hr
  have him : i ∈ L.map (fun x => x.1) := h.pm.mem_iff.2 (by simp [items])
  obtain ⟨z, hz, hzi⟩ := List.mem_map.1 him
  have hlen : 0 < L.length := List.length_pos_of_mem hz
  obtain ⟨y, hy, hl⟩ := lst_least L (L.length - 1) (by omega)
  refine ⟨y, hy, ?_⟩
  have hF : ∀ x ∈ L, ∀ z ∈ L, befH x z = befF (hasS s) x.1 z.1 := fun x hx z hz => by
    have e1 := h.en x hx
    have e2 := h.en z hz
    unfold befH befF
    rw [e1.1, e1.2, e2.1, e2.2]
  have hym : y ∈ L := List.mem_of_getElem? hy
  obtain ⟨m, hm⟩ := List.mem_iff_getElem?.1 hz
  have hml : m < L.length := (List.getElem?_eq_some_iff.1 hm).1
  have q1 := hl m (by omega) z hm
  rw [hF z hz y hym, hzi] at q1
  have q2 : befF (hasS s) y.1 i = false := by
    have := h.mem hym
    simp only [items, List.append_nil, List.mem_cons] at this
    rcases this with e | e
    · rw [e]; exact befF_self _ _
    · exact Hu.all (befF_tot _) h.hp.ho _ e
  rcases Nat.decEq y.1 i with e | e
  · rcases befF_ne (f := hasS s) e with z | z
    · rw [q2] at z; cases z
    · rw [q1] at z; cases z
  · exact e

/-- what is left when the least is popped -/
def popL (L : List (Nat × Int × Int)) : List (Nat × Int × Int) := L.take (lstS L (L.length - 1)) ++ L.drop (lstS L (L.length - 1) + 1)
theorem popL_nil : popL [] = [] := rfl
theorem popL_len {L : List (Nat × Int × Int)} (h : L ≠ []) : (popL L).length = L.length - 1 := by
  have h0 : 0 < L.length := List.length_pos_iff.2 h
  have := lstS_le L (L.length - 1)
  unfold popL
  simp; omega

theorem lst_some {L : List (Nat × Int × Int)} (h : L ≠ []) : ∃ x, L[lstS L (L.length - 1)]? = some x := by
  obtain ⟨y, hy, _⟩ := lst_least L (L.length - 1) (by have := List.length_pos_iff.2 h; omega)
  exact ⟨y, hy⟩
section
variable {F : Nat → Prop} {w0 w : World} {pa pm : Nat} {s : St} {t u : Tr} {L M l1 l2 : List (Nat × Int × Int)} {x : Nat × Int × Int} {i : Nat}
theorem room_two (h : Inv s t u L M) : 2 * (L.length + M.length) ≤ s.most := by
  have a := h.ok.count
  have b := h.ok.fits
  have c := h.num
  omega
theorem Ex.on {w' : World} {s' : St} (h : Ex F w0 w pa pm s) (e : Ex F w w' pa pm s') : Ex F w0 w' pa pm s' := ⟨e.is, h.kept.trans' e.kept⟩
theorem Aft.on {w' : World} {s' : St} (h : Aft F w0 w pa pm s) (e : Aft (Grow F w0 w) w w' pa pm s') : Aft F w0 w' pa pm s' := h.call e.is e.kept
theorem Aft.onx {w' : World} {s' : St} (h : Aft F w0 w pa pm s) (e : Ex (Grow F w0 w) w w' pa pm s') : Aft F w0 w' pa pm s' := h.back e
theorem Hh.tops {s : St} {t : Tr} {L : List (Nat × Int × Int)} (h : Hh s t L) (hL : L ≠ []) : ∃ n i k, t = nd n i k lf := by
  cases t with
  | lf => exact absurd (h.none.1 rfl) hL
  | nd n i k r =>
    have hr : r = lf := h.hp.top.resolve_left (fun e => by cases e)
    exact ⟨n, i, k, by rw [hr]⟩
theorem ph_le : ∀ t : Tr, ∀ b, t.size ≤ b → ph t ≤ t.size * bts b
  | lf, _, _ => Nat.zero_le _
  | nd n i l r, b, h => by
    simp only [size] at h
    have h1 := ph_le l b (by omega)
    have h2 := ph_le r b (by omega)
    have h3 := bts_mono (show l.size + r.size + 1 ≤ b by omega)
    simp only [ph, size]
    rw [Nat.add_mul, Nat.add_mul, Nat.one_mul]
    omega
theorem pot_le (h : Inv s t u L M) (hl : L.length + M.length ≤ 1000) : pot s t u ≤ 340000 := by
  have a1 := ph_le t 1000 (by rw [h.a.len]; omega)
  have b1 := ph_le u 1000 (by rw [h.b.len]; omega)
  rw [h.a.len] at a1
  rw [h.b.len] at b1
  have b10 := bts_le 10 1000 (by decide)
  have c1 : L.length * bts 1000 ≤ L.length * 10 := Nat.mul_le_mul_left _ b10
  have c2 : M.length * bts 1000 ≤ M.length * 10 := Nat.mul_le_mul_left _ b10
  unfold pot
  omega
/-- Min -/
theorem minC (h : Inv s t u L M) (hs : s.steps ≤ 95000000) (he : Ex F w0 w pa pm s) :
    Calls Tryz.prog 28 #[.pointer (some ⟨pa, 0, none⟩), .int .i64 (headr t)] w fun e w' => ∃ m : Int, e = .returned (.int .i64 m) ∧ (L = [] → m = -1) ∧ (∀ x, L[lstS L (L.length - 1)]? = some x → m = (x.1 : Int)) ∧ ∃ k, k ≤ 200 ∧ Ex F w0 w' pa pm (tk s k) := by
  refine (pminT h.a.hp h.ok he (by omega)).mono ?_
  rintro e w1 ⟨rfl, k, hk, e1⟩
  refine ⟨itemr t, rfl, fun hL => ?_, fun x hx => ?_, k, by omega, e1⟩
  · rw [h.a.none.2 hL]; rfl
  · have hne : L ≠ [] := fun e => by subst e; simp at hx
    obtain ⟨n, i, k, et⟩ := h.a.tops hne
    obtain ⟨z, hz, hzi⟩ := least_item h.a et
    rw [hx] at hz
    injection hz with hz
    rw [et, hz, hzi]; rfl
/-- Pop of none -/
theorem popC_none (h : Inv s t u [] M) (hs : s.steps ≤ 95000000) (he : Ex F w0 w pa pm s) :
    Calls Tryz.prog 40 #[.pointer (some ⟨pa, 0, none⟩), .int .i64 (headr t)] w fun e w' => ∃ k : Nat, e = .returned (.tuple #[.int .i64 (-1), .int .i64 (-1)]) ∧ k ≤ 10 ∧ Ex F w0 w' pa pm (tk s k) := by
  have ht := h.a.none.2 rfl
  rw [ht]
  refine (ppopT_none h.ok he (by omega)).mono ?_
  rintro e w1 ⟨k, rfl, hk, e1⟩
  exact ⟨k, rfl, by omega, e1⟩
/-- Pop -/
theorem popC (h : Inv s t u L M) (hl : L.length ≤ 1000) (hxx : L[lstS L (L.length - 1)]? = some x) (hs : s.steps ≤ 95000000) (he : Aft F w0 w pa pm s) :
    Calls Tryz.prog 40 #[.pointer (some ⟨pa, 0, none⟩), .int .i64 (headr t)] w fun e w' => ∃ (t' : Tr) (s' : St), e = .returned (.tuple #[.int .i64 (headr t'), .int .i64 (x.1 : Int)]) ∧ Aft F w0 w' pa pm s' ∧ Inv1 s' t' u (popL L) M x.1 ∧ s'.most = s.most ∧ s.steps ≤ s'.steps ∧ s'.steps + pot s' t' u ≤ s.steps + pot s t u + (68 * bts L.length + 25) ∧ ∀ c, hasS s' c 7 = hasS s c 7 ∧ hasS s' c 8 = hasS s c 8 := by
  have hne : L ≠ [] := fun e => by subst e; simp at hxx
  obtain ⟨n, i, k, e⟩ := h.a.tops hne
  obtain ⟨z, hz, hzi⟩ := least_item h.a e
  rw [hxx] at hz
  injection hz with hz
  rw [← hz] at hzi
  subst e
  have hlen := h.a.len
  simp only [size, Nat.add_zero] at hlen
  refine (ppopT h.a.hp h.ok (by omega) he.is (by omega)).mono ?_
  rintro e' w1 ⟨s', t', rfl, a1, rm, st1, st2⟩
  have I := rmx_inv h rm (split_at hxx).1 hzi
  refine ⟨t', s', by rw [hzi]; rfl, he.on a1, I, rm.most, st1, ?_, fun c => ?_⟩
  · rw [hlen] at st2
    unfold pot
    omega
  · rw [rm.key c 7 (by decide), rm.key c 8 (by decide), if_neg (by omega), if_neg (by omega)]
    exact ⟨rfl, rfl⟩
/-- Cut -/
theorem cutC (h : Inv s t u L M) (hl : L.length ≤ 1000) (hL : L = l1 ++ x :: l2) (he : Aft F w0 w pa pm s) (hs : s.steps + pot s t u ≤ 95000000) :
    Calls Tryz.prog 37 #[.pointer (some ⟨pa, 0, none⟩), .int .i64 (headr t), .int .i64 (x.1 : Int)] w fun e w' => ∃ (t' : Tr) (s' : St), e = .returned (.int .i64 (headr t')) ∧ Aft F w0 w' pa pm s' ∧ Inv1 s' t' u (l1 ++ l2) M x.1 ∧ s'.most = s.most ∧ s.steps ≤ s'.steps ∧ s'.steps + pot s' t' u ≤ s.steps + pot s t u + (170 * bts L.length + 60) := by
  have hne : L ≠ [] := fun e => by rw [hL] at e; simp at e
  obtain ⟨n, i, k, e⟩ := h.a.tops hne
  subst e
  have hxi := h.a.mem (x := x) (by rw [hL]; simp)
  have hlen := h.a.len
  simp only [size, Nat.add_zero] at hlen
  have hnd := nd_items h.a.hp.vp h.a.hp.nod
  obtain ⟨y, hy, h9, h6⟩ := h.a.hp.vp.at_item hxi
  have lx : LS s x.1 = true := h.a.live _ (item_cell hxi)
  have fin : ∀ (s' : St) (t' : Tr) (w' : World) (z : Nat), Aft (Grow F w0 w) w w' pa pm s' → Rmx s s' (nd n i k lf) t' z x.1 → s.steps ≤ s'.steps → s'.steps + 34 * ph t' ≤ s.steps + 34 * ph (nd n i k lf) + 170 * bts (k.size + 1) + 60 → Aft F w0 w' pa pm s' ∧ Inv1 s' t' u (l1 ++ l2) M x.1 ∧ s'.most = s.most ∧ s.steps ≤ s'.steps ∧ s'.steps + pot s' t' u ≤ s.steps + pot s (nd n i k lf) u + (170 * bts L.length + 60) := fun s' t' w' z a1 rm st1 st2 => by
    refine ⟨he.on a1, rmx_inv h rm hL rfl, rm.most, st1, ?_⟩
    rw [hlen] at st2
    unfold pot
    omega
  simp only [nodes, List.append_nil, List.mem_cons] at hy
  rcases hy with hy | hy
  · subst hy
    have hi : x.1 = i := by
      have := h.a.hp.vp.1.2.2.2.2.2.2.1
      rw [h6] at this; omega
    rw [hi]
    rw [hi] at fin
    refine (pcut_root h.a.hp h.ok (by omega) he.is (by omega)).mono ?_
    rintro e' w1 ⟨s', t', rfl, a1, rm, st1, st2⟩
    exact ⟨t', s', rfl, fin s' t' w1 y a1 rm st1 st2⟩
  · refine (pcut_child h.a.hp h.ok hy h6 h9 lx (by omega) he.is (by omega)).mono ?_
    rintro e' w1 ⟨s', t', rfl, a1, rm, st1, st2⟩
    exact ⟨t', s', rfl, fin s' t' w1 y a1 rm st1 st2⟩
/-- Push, where there is room -/
theorem pushC (h : Inv1 s t u L M i) (hx : 0 ≤ nextS s) (hs : s.steps ≤ 95000000) (he : Aft F w0 w pa pm s) :
    Calls Tryz.prog 25 #[.pointer (some ⟨pa, 0, none⟩), .int .i64 (headr t), .int .i64 (i : Int)] w fun e w' => ∃ (t' : Tr) (s' : St), e = .returned (.tuple #[.int .i64 (headr t'), .bool true]) ∧ Aft F w0 w' pa pm s' ∧ Inv s' t' u (L ++ [(i, hasS s i 7, hasS s i 8)]) M ∧ s'.most = s.most ∧ s.steps ≤ s'.steps ∧ s'.steps + pot s' t' u ≤ s.steps + pot s t u + (68 * bts (L.length + 1) + 52) := by
  refine (ppushT i h.a.hp h.live h.free h.out.1 hx h.ok he.is (by omega)).mono ?_
  rintro e w1 ⟨t', n, s', rfl, p, a1, st1, st2, pp⟩
  refine ⟨t', s', rfl, he.on a1, push_inv h p, p.most, st1, ?_⟩
  rw [h.a.len] at pp
  unfold pot
  omega
/-- Push, where there is none -/
theorem pushC_no (h : Inv1 s t u L M i) (hx : ¬ 0 ≤ nextS s) (hs : s.steps ≤ 95000000) (he : Aft F w0 w pa pm s) :
    Calls Tryz.prog 25 #[.pointer (some ⟨pa, 0, none⟩), .int .i64 (headr t), .int .i64 (i : Int)] w fun e w' => ∃ s' : St, e = .returned (.tuple #[.int .i64 (headr t), .bool false]) ∧ Aft F w0 w' pa pm s' ∧ Inv1 s' t u L M i ∧ s'.most = s.most ∧ s.steps ≤ s'.steps ∧ s'.steps + pot s' t u ≤ s.steps + pot s t u + 10 := by
  refine (ppushT_no i (headr t) h.live h.free hx he.is (by omega)).mono ?_
  rintro e w1 ⟨rfl, a1⟩
  have hx' : ¬ 0 ≤ nextS (tk s 1) := hx
  have e1 := take_full hx'
  refine ⟨_, rfl, he.on a1, (h.tk 1).full hx', by rw [e1]; rfl, by rw [e1]; show s.steps ≤ s.steps + 1 + 1; omega, ?_⟩
  rw [e1]
  show s.steps + 1 + 1 + pot s t u ≤ _
  omega
/-- Meld -/
theorem meldC (h : Inv s t u L M) (hs : s.steps ≤ 95000000) (he : Ex F w0 w pa pm s) :
    Calls Tryz.prog 39 #[.pointer (some ⟨pa, 0, none⟩), .int .i64 (headr t), .int .i64 (headr u)] w fun e w' => ∃ (t' : Tr) (s' : St), e = .returned (.int .i64 (headr t')) ∧ Ex F w0 w' pa pm s' ∧ Inv s' t' nilQ (L ++ M) [] ∧ s'.most = s.most ∧ s.steps ≤ s'.steps ∧ s'.steps + pot s' t' nilQ ≤ s.steps + pot s t u + (68 * bts (L.length + M.length) + 17) := by
  refine (pMeldT h.a.hp h.b.hp (by rw [List.nodup_append]; exact ⟨h.a.hp.nod, h.b.hp.nod, fun a ha b hb e => h.dj a ha (e ▸ hb)⟩) h.ok he (by omega)).mono ?_
  rintro e w1 ⟨s', t', rfl, e1, m, st1, st2, pp⟩
  refine ⟨t', s', rfl, e1, meld_inv h m, m.tch.sm.most, st1, ?_⟩
  rw [h.a.len, h.b.len] at pp
  unfold pot nilQ
  simp only [ph]
  omega
end
end Go.Proofs.YthfdooigljkfiaaGreat

/- Fall, over heaps and lists. -/
namespace Go.Proofs.YthfdooigljkfiaaGreat
open Go.ChangeShapes Go.WideShapes Go.ChangeAt Go.RowKit
open Tr

theorem low_steps (s : St) (c key : Int) : (lowS s c key).steps ≤ s.steps + 2 := by
  unfold lowS
  split
  · show s.steps + 1 ≤ _; omega
  · rw [set_steps]; show s.steps + 1 + 1 ≤ _; omega
/-- a key that has fallen: the order of a forest without its item -/
theorem Hu.fell {f : Nat → Nat → Int} {i : Nat} {v : Int} (hv : v ≤ f i 7) : ∀ {t : Tr} {u : Nat}, Hu (befF f) u t → i ∉ t.items → Hu (befF (put f i 7 v)) u t
  | lf, _, _, _ => trivial
  | nd n j k r, u, ⟨h1, h2, h3⟩, hi => by
    simp only [items, List.mem_cons, List.mem_append, not_or] at hi
    refine ⟨?_, h2.fell hv hi.2.1, h3.fell hv hi.2.2⟩
    have hj : j ≠ i := fun e => hi.1 e.symm
    by_cases e : u = i
    · subst e; exact bef_low hv hj h1
    · rw [← bef_other hj e]; exact h1
theorem Ho.fell {f : Nat → Nat → Int} {i : Nat} {v : Int} (hv : v ≤ f i 7) {n j : Nat} {k : Tr} (h : Ho (befF f) (nd n j k lf)) (hi : i ∉ k.items) : Ho (befF (put f i 7 v)) (nd n j k lf) := Hu.fell hv (t := k) (u := j) h hi
section
variable {F : Nat → Prop} {w0 w : World} {pa pm : Nat} {s : St} {t u : Tr} {L M l1 l2 : List (Nat × Int × Int)} {x : Nat × Int × Int}
/-- what is so once the item's key has fallen -/
theorem fall_inv (h : Inv s t u L M) (hL : L = l1 ++ x :: l2) (key : Int) (hk : key ≤ x.2.1) :
    lowB s (x.1 : Int) key = true ∧ (lowS s (x.1 : Int) key).steps = s.steps + 2 ∧ (lowS s (x.1 : Int) key).most = s.most ∧ Ok (lowS s (x.1 : Int) key) ∧
    ∃ (n i y : Nat) (k : Tr), t = nd n i k lf ∧ Vp (LS (lowS s (x.1 : Int) key)) (hasS (lowS s (x.1 : Int) key)) (-1) (-1) t ∧ hasS (lowS s (x.1 : Int) key) x.1 9 = (y : Int) ∧
      ((y = n ∧ Ho (befF (hasS (lowS s (x.1 : Int) key))) t) ∨ (y ∈ k.nodes ∧ Hu (befF (hasS (lowS s (x.1 : Int) key))) i (del y k) ∧ Ho (befF (hasS (lowS s (x.1 : Int) key))) (sub y k))) ∧
      ∀ t' s', Fld (lowS s (x.1 : Int) key) s' t t' → Inv s' t' u (l1 ++ l2 ++ [(x.1, key, x.2.2)]) M := by
  obtain ⟨j, k0, ser⟩ := x
  simp only at hk ⊢
  have hxm : (j, k0, ser) ∈ L := by rw [hL]; simp
  have hne : L ≠ [] := fun e => by rw [e] at hxm; cases hxm
  have hen := h.a.en _ hxm
  simp only at hen
  have hji : j ∈ t.items := h.a.mem hxm
  have hjt : j ∈ t.cells := item_cell hji
  obtain ⟨n, i, k, eT⟩ := h.a.tops hne
  have lii : LS s j = true := h.a.live j hjt
  have hju : j ∉ u.cells := h.dj j hjt
  have g7 : getS s (j : Int) 7 = k0 := (get_nat (j := 7) lii (by decide)).trans hen.1
  have eB : lowB s (j : Int) key = true := by unfold lowB; rw [g7, if_neg (by omega)]; exact may_nat (j := 7) lii (by decide)
  have eS : lowS s (j : Int) key = setS (tk s 1) (j : Int) 7 key := by unfold lowS; rw [g7, if_neg (by omega)]
  have sm : Sm s (lowS s (j : Int) key) := by rw [eS]; exact (Sm.tk h.ok 1).trans (Sm.set (Sm.tk h.ok 1).ok _ _ _)
  have hv : hasS (lowS s (j : Int) key) = put (hasS s) j 7 key := by rw [eS]; exact set_has (s := tk s 1) (j := 7) lii (by decide)
  have est : (lowS s (j : Int) key).steps = s.steps + 2 := by rw [eS, set_steps]; rfl
  generalize lowS s (j : Int) key = s1 at *
  have o7 : ∀ c z, z ≠ 7 → hasS s1 c z = hasS s c z := fun c z hz => by rw [hv, put_nj hz]
  have oc : ∀ c, c ≠ j → ∀ z, hasS s1 c z = hasS s c z := fun c hc z => by rw [hv, put_ne hc]
  have hk' : key ≤ hasS s j 7 := by rw [hen.1]; exact hk
  have vp7 : ∀ {up q : Int} {t : Tr}, Vp (LS s) (hasS s) up q t → Vp (LS s1) (hasS s1) up q t := by
    intro up q t
    induction t generalizing up q with
    | lf => intro _; trivial
    | nd n i k r ik ir =>
      rintro ⟨⟨v1, v2, v3, v4, v5, v6, v7, v8⟩, hk, hr⟩
      refine ⟨⟨by rw [sm.ls]; exact v1, by rw [sm.ls]; exact v2, ?_, ?_, ?_, ?_, ?_, ?_⟩, ik hk, ir hr⟩
      · rw [o7 _ _ (by decide)]; exact v3
      · rw [o7 _ _ (by decide)]; exact v4
      · rw [o7 _ _ (by decide)]; exact v5
      · rw [o7 _ _ (by decide)]; exact v6
      · rw [o7 _ _ (by decide)]; exact v7
      · rw [o7 _ _ (by decide)]; exact v8
  have hnd := hh_nodup h.a
  rw [hL, List.map_append, List.map_cons] at hnd
  obtain ⟨y, hy, h9, h6⟩ := h.a.hp.vp.at_item hji
  have ho := h.a.hp.ho
  have hin := nd_items h.a.hp.vp h.a.hp.nod
  refine ⟨eB, est, sm.most, sm.ok, n, i, y, k, eT, vp7 h.a.hp.vp, by rw [o7 _ _ (by decide)]; exact h9, ?_, fun t' s' fl => ?_⟩
  · rw [hv]
    subst eT
    simp only [nodes, List.append_nil, List.mem_cons] at hy
    simp only [items, List.append_nil, List.nodup_cons] at hin
    have hkn := (nd_nodup h.a.hp.nod).1
    rcases hy with hy | hy
    · subst hy
      have hi : j = i := by
        have := h.a.hp.vp.1.2.2.2.2.2.2.1
        rw [h6] at this; omega
      subst hi
      exact Or.inl ⟨rfl, Ho.fell hk' ho hin.1⟩
    · refine Or.inr ⟨hy, ?_⟩
      obtain ⟨o1, o2⟩ := del_hu (lt := befF (hasS s)) (u := i) hkn hy ho
      obtain ⟨jj, kk, es⟩ := sub_top hkn hy
      have pI := (del_perm hkn hy).2.1
      have hjj : jj = j := by
        have v := leave_view h.a.hp.vp h.a.hp.nod (x := y) (by simp [nodes, hy]) (fun c _ => ⟨by omega, by omega⟩)
        have yn : ¬ n = y := by
          have := h.a.hp.nod
          simp only [cells, List.append_nil, List.nodup_cons, List.mem_cons, not_or] at this
          exact fun z => this.1.2 (z ▸ node_cell hy)
        have d2 : sub y (nd n i k lf) = sub y k := by simp only [sub]; rw [if_neg yn, if_pos hy]
        have v2 := v.2
        rw [d2, es] at v2
        have := v2.1.2.2.2.2.2.2.1
        rw [lvF_key _ _ _ _ (by decide), h6] at this
        omega
      subst hjj
      rw [es] at pI o2
      have nn := pI.nodup_iff.1 hin.2
      simp only [items, List.append_nil] at nn
      rw [List.nodup_append, List.nodup_cons] at nn
      refine ⟨Hu.fell hk' o1 fun z => nn.2.2 jj z jj (by simp) rfl, ?_⟩
      rw [es]
      exact Ho.fell hk' o2 nn.2.1.1
  · have tc := fl.tch
    have hu : ∀ c ∈ u.cells, LS s' c = LS s c ∧ ∀ z, hasS s' c z = hasS s c z := fun c hc =>
      ⟨by rw [tc.sm.ls, sm.ls], fun z => by rw [tc.out c (fun q => h.dj c q hc) z, oc c (fun q => hju (q ▸ hc)) z]⟩
    refine ⟨tc.sm.ok, ⟨fl.hp, ?_, fun z hz => ?_⟩, h.b.keep hu, fun c hc q => h.dj c (fl.pc.mem_iff.1 hc) q, ?_⟩
    · refine List.Perm.trans ?_ fl.pi.symm
      refine List.Perm.trans ?_ h.a.pm
      rw [hL]
      simp only [List.map_append, List.map_cons, List.map_nil, List.append_assoc]
      refine List.Perm.append_left _ ?_
      exact List.perm_append_comm
    · rw [tc.key z.1 7 (by decide), tc.key z.1 8 (by decide)]
      rw [List.mem_append] at hz
      rcases hz with hz | hz
      · have hzi : z.1 ≠ j := fun q => by
          rw [List.nodup_append, List.nodup_cons] at hnd
          rcases List.mem_append.1 hz with w | w
          · exact hnd.2.2 j (List.mem_map.2 ⟨z, w, q⟩) j (by simp) rfl
          · exact hnd.2.1.1 (List.mem_map.2 ⟨z, w, q⟩)
        rw [oc _ hzi, oc _ hzi]
        exact h.a.en z (by rw [hL]; rw [List.mem_append] at hz; simp; rcases hz with w | w; exact Or.inl w; exact Or.inr (Or.inr w))
      · simp at hz; subst hz
        simp only
        exact ⟨by rw [hv, put_at], by rw [o7 j 8 (by decide)]; exact hen.2⟩
    · rw [cnt_sm sm.ok tc.sm, cnt_sm h.ok sm, h.num, hL]; simp
theorem fallC (h : Inv s t u L M) (_hl : L.length ≤ 1000) (hL : L = l1 ++ x :: l2) (key : Int) (hk : key ≤ x.2.1) (he : Ex F w0 w pa pm (lowS s (x.1 : Int) key)) (hs : s.steps + pot s t u ≤ 95000000) :
    Calls Tryz.prog 35 #[.pointer (some ⟨pa, 0, none⟩), .int .i64 (headr t), .int .i64 (x.1 : Int)] w fun e w' => ∃ (t' : Tr) (s' : St), e = .returned (.int .i64 (headr t')) ∧ Ex F w0 w' pa pm s' ∧ Inv s' t' u (l1 ++ l2 ++ [(x.1, key, x.2.2)]) M ∧ s'.most = s.most ∧ s.steps + 2 ≤ s'.steps ∧ s'.steps + pot s' t' u ≤ s.steps + pot s t u + (102 * bts L.length + 26) := by
  obtain ⟨e1, e2, e3, e4, n, i, y, k, eT, vp, h9, hc, post⟩ := fall_inv h hL key hk
  have hlen := h.a.len
  have hji : x.1 ∈ t.items := h.a.mem (by rw [hL]; simp)
  have nod := h.a.hp.nod
  subst eT
  simp only [size, Nat.add_zero] at hlen
  refine (pfallT vp nod e4 hji h9 hc he (by omega)).mono ?_
  rintro e w1 ⟨s', t', rfl, e5, fl, st1, st2, pp⟩
  refine ⟨t', s', rfl, e5, post t' s' fl, fl.tch.sm.most.trans e3, by omega, ?_⟩
  rw [hlen] at pp
  unfold pot
  omega
end
end Go.Proofs.YthfdooigljkfiaaGreat

/- The laws' own world: an arena, two roots, two lists of what is held, three counters. -/
namespace Go.Proofs.YthfdooigljkfiaaGreat
open Go.ChangeShapes Go.WideShapes Go.ChangeAt Go.RowKit

/-- what is left alone: all of w but T -/
structure Fm where
  w : World
  T : Nat → Prop
def Fm.of (w : World) : Fm := ⟨w, fun _ => False⟩
theorem Kept.over {T F : Nat → Prop} {a b c : World} (h : Kept T a b) (k : Kept F b c) (hF : ∀ i, F i → T i ∨ a.heap.size ≤ i) : Kept T a c :=
  ⟨k.os.trans h.os, k.tape.trans h.tape, k.output.trans h.output, Nat.le_trans h.size k.size, fun i hi hn =>
    (k.block i (Nat.lt_of_lt_of_le hi h.size) (fun e => by rcases hF i e with q | q; exact hn q; omega)).trans (h.block i hi hn)⟩
/-- the world at pw -/
structure Wx (w0 : Fm) (w : World) (F : Nat → Prop) (pw pa pm : Nat) (v0 v1 : Value) (s : St) (r0 r1 : Int) (L0 L1 : List (Nat × Int × Int)) (nx sp mo : Int) : Prop where
  blk : w.heap[pw]? = some (.cells #[.pointer (some ⟨pa, 0, none⟩), .int .i64 r0, .int .i64 r1, v0, v1, .int .i64 nx, .int .i64 sp, .int .i64 mo] 35)
  is : IsA w F pa pm s
  out : ¬ F pw
  l0 : Lz (fun b => ¬ F b ∧ b ≠ pw) w v0 L0
  l1 : Lz (fun b => ¬ F b ∧ b ≠ pw) w v1 L1
  new : ∀ k, F k → w0.T k ∨ w0.w.heap.size ≤ k
  pwn : w0.T pw ∨ w0.w.heap.size ≤ pw
  kep : Kept w0.T w0.w w

section
variable {w0 : Fm} {w w' : World} {F : Nat → Prop} {pw pa pm : Nat} {v0 v1 : Value} {s s' : St} {r0 r1 : Int} {L0 L1 : List (Nat × Int × Int)} {nx sp mo : Int}
theorem Wx.lt (h : Wx w0 w F pw pa pm v0 v1 s r0 r1 L0 L1 nx sp mo) : pw < w.heap.size := lt_of_block h.blk
/-- a call of the arena that makes no blocks of its own -/
theorem Wx.ex (h : Wx w0 w F pw pa pm v0 v1 s r0 r1 L0 L1 nx sp mo) (e : Ex F w w' pa pm s') : Wx w0 w' F pw pa pm v0 v1 s' r0 r1 L0 L1 nx sp mo :=
  ⟨(e.kept.block pw h.lt h.out).trans h.blk, e.is, h.out, h.l0.kept e.kept (fun _ q => q.1), h.l1.kept e.kept (fun _ q => q.1), h.new, h.pwn, h.kep.over e.kept h.new⟩
theorem Wx.aft (h : Wx w0 w F pw pa pm v0 v1 s r0 r1 L0 L1 nx sp mo) (e : Aft F w w' pa pm s') : Wx w0 w' (Grow F w w') pw pa pm v0 v1 s' r0 r1 L0 L1 nx sp mo :=
  ⟨(e.kept.block pw h.lt h.out).trans h.blk, e.is, fun q => q.elim h.out fun q => by have := h.lt; omega,
   (h.l0.mono (Q := fun b => (¬ F b ∧ b ≠ pw) ∧ b < w.heap.size) (fun b hb q => ⟨q, hb⟩) |>.kept e.kept (fun _ q => q.1.1)).mono (fun b _ q => ⟨fun z => z.elim q.1.1 fun z => by have := q.2; omega, q.1.2⟩),
   (h.l1.mono (Q := fun b => (¬ F b ∧ b ≠ pw) ∧ b < w.heap.size) (fun b hb q => ⟨q, hb⟩) |>.kept e.kept (fun _ q => q.1.1)).mono (fun b _ q => ⟨fun z => z.elim q.1.1 fun z => by have := q.2; omega, q.1.2⟩),
   fun k q => q.elim (h.new k) fun q => Or.inr (Nat.le_trans h.kep.size q.1), h.pwn, h.kep.over e.kept h.new⟩
theorem Wx.plain (h : Wx w0 w F pw pa pm v0 v1 s r0 r1 L0 L1 nx sp mo) (k : Kept (fun _ => False) w w') : Wx w0 w' F pw pa pm v0 v1 s r0 r1 L0 L1 nx sp mo := h.ex ((Ex.start h.is).plain k)
theorem Wx.drewN (h : Wx w0 w F pw pa pm v0 v1 s r0 r1 L0 L1 nx sp mo) (n : Nat) : Wx w0 (w.drewN n) F pw pa pm v0 v1 s r0 r1 L0 L1 nx sp mo := h.plain ((Kept.refl _ _).drewN n)
/-- the block of the world is written -/
theorem Wx.wrote {v0' v1' : Value} {r0' r1' nx' sp' mo' : Int} {L0' L1' : List (Nat × Int × Int)} (h : Wx w0 w F pw pa pm v0 v1 s r0 r1 L0 L1 nx sp mo) (k : Kept (fun b => b = pw) w w')
    (hb : w'.heap[pw]? = some (.cells #[.pointer (some ⟨pa, 0, none⟩), .int .i64 r0', .int .i64 r1', v0', v1', .int .i64 nx', .int .i64 sp', .int .i64 mo'] 35)) (h0 : Lz (fun b => ¬ F b ∧ b ≠ pw) w' v0' L0') (h1 : Lz (fun b => ¬ F b ∧ b ≠ pw) w' v1' L1') :
    Wx w0 w' F pw pa pm v0' v1' s r0' r1' L0' L1' nx' sp' mo' :=
  ⟨hb, h.is.kept k (fun b hF q => h.out (q ▸ hF)), h.out, h0, h1, h.new, h.pwn, h.kep.over k fun b q => by rw [q]; exact h.pwn⟩
theorem Wx.cells (h : Wx w0 w F pw pa pm v0 v1 s r0 r1 L0 L1 nx sp mo) : w.cell? ⟨pw, 0, none⟩ = some (.pointer (some ⟨pa, 0, none⟩)) ∧ w.cell? ⟨pw, 1, none⟩ = some (.int .i64 r0) ∧ w.cell? ⟨pw, 2, none⟩ = some (.int .i64 r1) ∧ w.cell? ⟨pw, 3, none⟩ = some v0 ∧ w.cell? ⟨pw, 4, none⟩ = some v1 ∧ w.cell? ⟨pw, 5, none⟩ = some (.int .i64 nx) ∧ w.cell? ⟨pw, 6, none⟩ = some (.int .i64 sp) ∧ w.cell? ⟨pw, 7, none⟩ = some (.int .i64 mo) ∧ (∀ j, w.frozen? ⟨pw, j, none⟩ = false) :=
  ⟨blk_cell h.blk rfl, blk_cell h.blk rfl, blk_cell h.blk rfl, blk_cell h.blk rfl, blk_cell h.blk rfl, blk_cell h.blk rfl, blk_cell h.blk rfl, blk_cell h.blk rfl, fun _ => blk_free h.blk⟩
end
theorem kept_pw (w : World) (g o : Nat) (u : Value) : Kept (fun k => k = g) w (w.setCell ⟨g, o, none⟩ u) := (Kept.refl (fun k => k = g) w).setCell (p := ⟨g, o, none⟩) (Or.inl rfl) u

set_option maxHeartbeats 2000000 in
theorem costW (n t sp mo : Nat) (hn : n < 1048576) {w0 : Fm} {w : World} {F : Nat → Prop} {pw pa pm : Nat} {v0 v1 : Value} {s : St} {r0 r1 : Int} {L0 L1 : List (Nat × Int × Int)} {nx : Int} (h : Wx w0 w F pw pa pm v0 v1 s r0 r1 L0 L1 nx (sp : Int) (mo : Int)) (ht : t ≤ s.steps) (hs : s.steps ≤ 100000000) (hm : mo ≤ 100000000000) (hc : sp + s.steps ≤ mo + t + (500 + 400 * bts n)) :
    Calls Tryz.prog 26 #[.pointer (some ⟨pw, 0, none⟩), .int .i64 (t : Int), .int .i64 1, .int .i64 (n : Int)] w fun e w' => e = .returned (.bool true) ∧ ∃ sp' mo' : Nat, sp' + t = sp + s.steps ∧ mo' = mo + (500 + 400 * bts n) ∧ Wx w0 w' F pw pa pm v0 v1 s r0 r1 L0 L1 nx (sp' : Int) (mo' : Int) := by
  have HW := hid h
  have M := hid (meterA pa pm s F w h.is)
  have T := hid (stepsA pa pm s F w h.is)
  have B20 := bts_le 20 n hn
  have LI := hid (fun w => limitR n hn w)
  generalize bts n = bn at *
  obtain ⟨c0, c1, c2, c3, c4, c5, c6, c7, cf⟩ := h.cells
  have hlt := h.lt
  have f6 := cf 6
  have f7 := cf 7
  clear h c1 c2 c3 c4 c5 cf hn
  generalize hq : s.steps = q at *
  clear hq
  obtain ⟨x, hx⟩ : ∃ x : Nat, (q : Int) - (t : Int) = (x : Int) := ⟨q - t, by omega⟩
  have HX := hid hx
  have hx1 : x ≤ 100000000 := by omega
  obtain ⟨y, hy⟩ : ∃ y : Nat, y = 500 + 400 * bn := ⟨_, rfl⟩
  rw [← hy] at LI hc ⊢
  have hy1 : y ≤ 10000 := by omega
  have HY := hid hy
  have hd : decide ((sp : Int) + (x : Int) ≤ (mo : Int) + (y : Int)) = true := by simp; omega
  clear hy
  go_enter Tryz.func26, Tryz.ntmps26
  go_wp2_with fail
  refine M.out.mono ?_
  rintro e w1 ⟨rfl, rfl⟩
  go_wp2_with fail
  refine T.out.mono ?_
  rintro e w2 ⟨rfl, rfl⟩
  go_wp2_with fail
  refine (LI.out _).mono ?_
  rintro e w3 ⟨rfl, rfl⟩
  clear M T LI
  go_wp2_with fail
  go_region
  go_wp2
  have b1 := blk_set (j := 6) (u := .int .i64 ((sp : Int) + (x : Int))) HW.out.blk
  have b2 := blk_set (j := 7) (u := .int .i64 ((mo : Int) + (y : Int))) b1
  have kk := ((kept_pw w3 pw 6 (.int .i64 ((sp : Int) + (x : Int)))).trans' (kept_pw _ pw 7 (.int .i64 ((mo : Int) + (y : Int))))).drew
  have b3 : ((w3.setCell ⟨pw, 6, none⟩ (.int .i64 ((sp : Int) + (x : Int)))).setCell ⟨pw, 7, none⟩ (.int .i64 ((mo : Int) + (y : Int)))).drew.heap[pw]? = _ := b2
  simp at b3
  have HN := hid (HW.out.wrote kk b3 (HW.out.l0.kept kk fun _ q => q.2) (HW.out.l1.kept kk fun _ q => q.2))
  clear b1 b2 b3 kk c0 c6 c7 f6 f7 hlt HW
  generalize ((w3.setCell ⟨pw, 6, none⟩ (.int .i64 ((sp : Int) + (x : Int)))).setCell ⟨pw, 7, none⟩ (.int .i64 ((mo : Int) + (y : Int)))).drew = w4 at *
  obtain ⟨c0, c1, c2, c3, c4, c5, c6, c7, cf⟩ := HN.out.cells
  clear c0 c1 c2 c3 c4 c5 cf
  have hlt := HN.out.lt
  go_wp2
  first | go_ret | (go_region; go_wp2; go_ret)
  exact ⟨rfl, sp + x, mo + y, by omega, rfl, by have := HN.out.plain ((Kept.refl _ _).drew); simpa using this⟩
set_option maxHeartbeats 2000000 in
theorem costW0 (n t sp mo : Nat) {w0 : Fm} {w : World} {F : Nat → Prop} {pw pa pm : Nat} {v0 v1 : Value} {s : St} {r0 r1 : Int} {L0 L1 : List (Nat × Int × Int)} {nx : Int} (h : Wx w0 w F pw pa pm v0 v1 s r0 r1 L0 L1 nx (sp : Int) (mo : Int)) (ht : t ≤ s.steps) (hs : s.steps ≤ 100000000) (hm : mo ≤ 100000000000) (hc : sp + s.steps ≤ mo + t + 500) :
    Calls Tryz.prog 26 #[.pointer (some ⟨pw, 0, none⟩), .int .i64 (t : Int), .int .i64 0, .int .i64 (n : Int)] w fun e w' => e = .returned (.bool true) ∧ ∃ sp' mo' : Nat, sp' + t = sp + s.steps ∧ mo' = mo + 500 ∧ Wx w0 w' F pw pa pm v0 v1 s r0 r1 L0 L1 nx (sp' : Int) (mo' : Int) := by
  have HW := hid h
  have M := hid (meterA pa pm s F w h.is)
  have T := hid (stepsA pa pm s F w h.is)
  obtain ⟨c0, c1, c2, c3, c4, c5, c6, c7, cf⟩ := h.cells
  have hlt := h.lt
  have f6 := cf 6
  have f7 := cf 7
  clear h c1 c2 c3 c4 c5 cf
  generalize hq : s.steps = q at *
  clear hq
  obtain ⟨x, hx⟩ : ∃ x : Nat, (q : Int) - (t : Int) = (x : Int) := ⟨q - t, by omega⟩
  have HX := hid hx
  have hx1 : x ≤ 100000000 := by omega
  have hd : decide ((sp : Int) + (x : Int) ≤ (mo : Int) + 500) = true := by simp; omega
  go_enter Tryz.func26, Tryz.ntmps26
  go_wp2_with fail
  refine M.out.mono ?_
  rintro e w1 ⟨rfl, rfl⟩
  go_wp2_with fail
  refine T.out.mono ?_
  rintro e w2 ⟨rfl, rfl⟩
  clear M T
  go_wp2_with fail
  go_region
  go_wp2
  have b1 := blk_set (j := 6) (u := .int .i64 ((sp : Int) + (x : Int))) HW.out.blk
  have b2 := blk_set (j := 7) (u := .int .i64 ((mo : Int) + 500)) b1
  have kk := ((kept_pw w2 pw 6 (.int .i64 ((sp : Int) + (x : Int)))).trans' (kept_pw _ pw 7 (.int .i64 ((mo : Int) + 500)))).drew
  have b3 : ((w2.setCell ⟨pw, 6, none⟩ (.int .i64 ((sp : Int) + (x : Int)))).setCell ⟨pw, 7, none⟩ (.int .i64 ((mo : Int) + 500))).drew.heap[pw]? = _ := b2
  simp at b3
  have HN := hid (HW.out.wrote kk b3 (HW.out.l0.kept kk fun _ q => q.2) (HW.out.l1.kept kk fun _ q => q.2))
  clear b1 b2 b3 kk c0 c6 c7 f6 f7 hlt HW
  generalize ((w2.setCell ⟨pw, 6, none⟩ (.int .i64 ((sp : Int) + (x : Int)))).setCell ⟨pw, 7, none⟩ (.int .i64 ((mo : Int) + 500))).drew = w4 at *
  obtain ⟨c0, c1, c2, c3, c4, c5, c6, c7, cf⟩ := HN.out.cells
  clear c0 c1 c2 c3 c4 c5 cf
  have hlt := HN.out.lt
  go_wp2
  first | go_ret | (go_region; go_wp2; go_ret)
  exact ⟨rfl, sp + x, mo + 500, by omega, rfl, by have := HN.out.plain ((Kept.refl _ _).drew); simpa using this⟩
end Go.Proofs.YthfdooigljkfiaaGreat

/- The laws' world and its heaps together. -/
namespace Go.Proofs.YthfdooigljkfiaaGreat
open Go.ChangeShapes Go.WideShapes Go.ChangeAt Go.RowKit
open Tr

theorem Hh.item {s : St} {t : Tr} {L : List (Nat × Int × Int)} (h : Hh s t L) {x : Nat × Int × Int} (hx : x ∈ L) : LS s x.1 = true := h.live _ (item_cell (h.mem hx))
/-- the laws' world: what its heaps hold; how many cells there are; its steps at most -/
def Sit (w0 : Fm) (w : World) (pw N K : Nat) (L0 L1 : List (Nat × Int × Int)) (nx : Int) : Prop := ∃ F pa pm v0 v1 s, ∃ t u : Tr, ∃ sp mo : Nat, Wx w0 w F pw pa pm v0 v1 s (headr t) (headr u) L0 L1 nx (sp : Int) (mo : Int) ∧ Inv s t u L0 L1 ∧ (s.steps + pot s t u ≤ K ∧ sp + pot s t u ≤ mo ∧ mo ≤ 100 * K) ∧ s.most = N
theorem Sit.drewN {w0 : Fm} {w : World} {pw N K : Nat} {L0 L1 : List (Nat × Int × Int)} {nx : Int} (h : Sit w0 w pw N K L0 L1 nx) (n : Nat) : Sit w0 (w.drewN n) pw N K L0 L1 nx := by
  obtain ⟨F, pa, pm, v0, v1, s, t, u, sp, mo, h1, h2⟩ := h
  exact ⟨F, pa, pm, v0, v1, s, t, u, sp, mo, h1.drewN n, h2⟩
theorem Sit.mono {w0 : Fm} {w : World} {pw N K K' : Nat} {L0 L1 : List (Nat × Int × Int)} {nx : Int} (h : Sit w0 w pw N K L0 L1 nx) (hk : K ≤ K') : Sit w0 w pw N K' L0 L1 nx := by
  obtain ⟨F, pa, pm, v0, v1, s, t, u, sp, mo, h1, h2, h3, h4⟩ := h
  exact ⟨F, pa, pm, v0, v1, s, t, u, sp, mo, h1, h2, by omega, h4⟩
theorem Sit.kep {w0 : Fm} {w : World} {pw N K : Nat} {L0 L1 : List (Nat × Int × Int)} {nx : Int} (h : Sit w0 w pw N K L0 L1 nx) : Kept w0.T w0.w w := by
  obtain ⟨F, pa, pm, v0, v1, s, t, u, sp, mo, h1, h2⟩ := h
  exact h1.kep
theorem Sit.bel {w0 w : World} {pw N K : Nat} {L0 L1 : List (Nat × Int × Int)} {nx : Int} (h : Sit (Fm.of w0) w pw N K L0 L1 nx) : Below w0.heap.size w0 w := h.kep.below (Nat.le_refl _) fun _ e => e.elim
theorem Sit.plain {w0 : Fm} {w w' : World} {pw N K : Nat} {L0 L1 : List (Nat × Int × Int)} {nx : Int} (h : Sit w0 w pw N K L0 L1 nx) (k : Kept (fun _ => False) w w') : Sit w0 w' pw N K L0 L1 nx := by
  obtain ⟨F, pa, pm, v0, v1, s, t, u, sp, mo, h1, h2⟩ := h
  exact ⟨F, pa, pm, v0, v1, s, t, u, sp, mo, h1.plain k, h2⟩
/-- from here on: what may turn are the world's own blocks -/
theorem Sit.re {w0 : Fm} {w : World} {pw N K : Nat} {L0 L1 : List (Nat × Int × Int)} {nx : Int} (h : Sit w0 w pw N K L0 L1 nx) :
    ∃ T : Nat → Prop, (∀ b, T b → (w0.T b ∨ w0.w.heap.size ≤ b) ∧ b < w.heap.size) ∧ Sit ⟨w, T⟩ w pw N K L0 L1 nx := by
  obtain ⟨F, pa, pm, v0, v1, s, t, u, sp, mo, h1, h2⟩ := h
  have hlt := h1.lt
  refine ⟨fun b => F b ∨ b = pw, fun b hb => ?_, F, pa, pm, v0, v1, s, t, u, sp, mo, ⟨h1.blk, h1.is, h1.out, h1.l0, h1.l1, fun k hk => Or.inl (Or.inl hk), Or.inl (Or.inr rfl), Kept.refl _ _⟩, h2⟩
  rcases hb with hb | hb
  · exact ⟨h1.new b hb, h1.is.lt b hb⟩
  · subst hb; exact ⟨h1.pwn, hlt⟩
theorem pot_start (n : Int) : pot (st0 n) nilQ nilQ = 0 := by simp [pot, ph, nilQ]
end Go.Proofs.YthfdooigljkfiaaGreat
