/- Several texts in one. -/
import Derived.Test.YtckoglddhkbgkabGreatGi
import Derived.Test.YtckoglddhkbgkabGreatGc
import Derived.Test.YtckoglddhkbgkabGreatGb
/- Two heaps and what they hold: how New, Push, Pop, Cut, Meld, Give turn them. -/
namespace Go.Proofs.YtckoglddhkbgkabGreat
open Go.ChangeShapes Go.WideShapes Go.ChangeAt Go.RowKit
open Tr

/-- a heap: its nodes, its top ones, the root first -/
structure Fq where
  H : List Nat
  T : List Nat
def nilQ : Fq := ⟨[], []⟩
def headr (t : Fq) : Int := hdL t.T
def its (s : St) (t : Fq) : List Nat := t.H.map (itF (hasS s))
def cel (s : St) (t : Fq) : List Nat := t.H ++ its s t
/-- a heap, and the list of what it holds -/
structure Hh (s : St) (t : Fq) (L : List (Nat × Int × Int)) : Prop where
  hq : Hq s t.H t.T
  pm : (L.map (fun x => x.1)).Perm (its s t)
  en : ∀ x ∈ L, hasS s x.1 7 = x.2.1 ∧ hasS s x.1 8 = x.2.2
/-- two heaps; no cell is lost -/
structure Inv (s : St) (t u : Fq) (L M : List (Nat × Int × Int)) : Prop where
  ok : Ok s
  a : Hh s t L
  b : Hh s u M
  dj : ∀ c ∈ cel s t, c ∉ cel s u
  num : cnt s.pl = 2 * (L.length + M.length)
/-- two heaps, and an item that is in none -/
structure Inv1 (s : St) (t u : Fq) (L M : List (Nat × Int × Int)) (i : Nat) : Prop where
  ok : Ok s
  a : Hh s t L
  b : Hh s u M
  dj : ∀ c ∈ cel s t, c ∉ cel s u
  num : cnt s.pl = 2 * (L.length + M.length) + 1
  live : LS s i = true
  out : i ∉ cel s t ∧ i ∉ cel s u
  free : hasS s i 9 = -1
/-- what calls that are to come may lean on -/
def pot (s : St) (t u : Fq) : Nat := 32 * (t.T.length + u.T.length) + 54 * (mks (hasS s) t.H + mks (hasS s) u.H)

section
variable {s s' : St} {t u : Fq} {L M : List (Nat × Int × Int)} {i : Nat}
theorem Hh.nil (s : St) : Hh s nilQ [] := by
  refine ⟨⟨⟨⟨by simp [nilQ], fun n h => (by cases h), fun n h => (by cases h), fun n h => (by cases h), fun n h => (by cases h), fun n h => (by cases h), ⟨trivial, by simp [nilQ], fun c => by simp [nilQ]⟩, fun n h => (by cases h), ⟨fun _ => 0, fun n h => (by cases h)⟩⟩, fun c h => (by cases h), fun c h => (by cases h)⟩, trivial⟩, .nil, fun x h => (by cases h)⟩
theorem Hh.len (h : Hh s t L) : t.H.length = L.length := by
  have := h.pm.length_eq
  unfold its at this
  rw [List.length_map, List.length_map] at this; exact this.symm
theorem Hh.mem (h : Hh s t L) {x : Nat × Int × Int} (hx : x ∈ L) : ∃ n ∈ t.H, itF (hasS s) n = x.1 := by
  have := h.pm.mem_iff.1 (List.mem_map.2 ⟨x, hx, rfl⟩)
  obtain ⟨n, hn, e⟩ := List.mem_map.1 this
  exact ⟨n, hn, e⟩
theorem Hh.none (h : Hh s t L) : t = nilQ ↔ L = [] := by
  have := h.len
  constructor
  · intro e; rw [e] at this; exact List.eq_nil_of_length_eq_zero this.symm
  · intro e
    rw [e] at this
    have e1 := List.eq_nil_of_length_eq_zero this
    have e2 := (fh_nil h.hq.gh.fh).2 e1
    cases t
    simp only at e1 e2
    rw [e1, e2]; rfl
theorem Hh.keep (h : Hh s t L) (hf : ∀ c ∈ cel s t, LS s' c = LS s c ∧ ∀ j, hasS s' c j = hasS s c j) : Hh s' t L ∧ its s' t = its s t := by
  have hn : ∀ c ∈ t.H, LS s' c = true ∧ ∀ j, hasS s' c j = hasS s c j := fun c hc => by
    have := hf c (List.mem_append_left _ hc)
    exact ⟨by rw [this.1]; exact h.hq.gh.fh.ln c hc, this.2⟩
  have hi : ∀ c ∈ t.H, LS s' (itF (hasS s) c) = true ∧ ∀ j, hasS s' (itF (hasS s) c) j = hasS s (itF (hasS s) c) j := fun c hc => by
    have := hf (itF (hasS s) c) (List.mem_append_right _ (List.mem_map.2 ⟨c, hc, rfl⟩))
    exact ⟨by rw [this.1]; exact (h.hq.gh.fh.it c hc).2.1, this.2⟩
  have it : its s' t = its s t := by
    unfold its
    refine List.map_congr_left fun c hc => ?_
    unfold itF; rw [(hn c hc).2 6]
  refine ⟨⟨h.hq.keep hn hi, by rw [it]; exact h.pm, fun x hx => ?_⟩, it⟩
  obtain ⟨n, nH, e⟩ := h.mem hx
  rw [← e, (hi n nH).2, (hi n nH).2, e]; exact h.en x hx
theorem cel_its (h : its s' t = its s t) : cel s' t = cel s t := by unfold cel; rw [h]
theorem Hh.live (h : Hh s t L) : ∀ c ∈ cel s t, LS s c = true := fun c hc => by
  rcases List.mem_append.1 hc with z | z
  · exact h.hq.gh.fh.ln c z
  · obtain ⟨n, hn, e⟩ := List.mem_map.1 z
    rw [← e]; exact (h.hq.gh.fh.it n hn).2.1
theorem Inv.swap (h : Inv s t u L M) : Inv s u t M L := ⟨h.ok, h.b, h.a, fun c hc q => h.dj c q hc, by have := h.num; omega⟩
theorem Inv1.swap (h : Inv1 s t u L M i) : Inv1 s u t M L i := ⟨h.ok, h.b, h.a, fun c hc q => h.dj c q hc, by have := h.num; omega, h.live, h.out.symm, h.free⟩
theorem pot_swap (s : St) (t u : Fq) : pot s t u = pot s u t := by unfold pot; omega
theorem Inv.tk (h : Inv s t u L M) (k : Nat) : Inv (tk s k) t u L M := ⟨(Sm.tk h.ok k).ok, (h.a.keep (s' := Go.Proofs.YtckoglddhkbgkabGreat.tk s k) fun _ _ => ⟨rfl, fun _ => rfl⟩).1, (h.b.keep (s' := Go.Proofs.YtckoglddhkbgkabGreat.tk s k) fun _ _ => ⟨rfl, fun _ => rfl⟩).1, h.dj, h.num⟩
theorem Inv1.tk (h : Inv1 s t u L M i) (k : Nat) : Inv1 (tk s k) t u L M i := ⟨(Sm.tk h.ok k).ok, (h.a.keep (s' := Go.Proofs.YtckoglddhkbgkabGreat.tk s k) fun _ _ => ⟨rfl, fun _ => rfl⟩).1, (h.b.keep (s' := Go.Proofs.YtckoglddhkbgkabGreat.tk s k) fun _ _ => ⟨rfl, fun _ => rfl⟩).1, h.dj, h.num, h.live, h.out, h.free⟩
theorem Inv.start (n : Int) : Inv (st0 n) nilQ nilQ [] [] := ⟨Ok.start n, Hh.nil _, Hh.nil _, fun c hc => by simp [cel, its, nilQ] at hc, rfl⟩
/-- a call that leaves both heaps alone -/
theorem Inv.both (h : Inv s t u L M) (hk : ∀ c, c ∈ cel s t ∨ c ∈ cel s u → LS s' c = LS s c ∧ ∀ j, hasS s' c j = hasS s c j) : Hh s' t L ∧ Hh s' u M ∧ cel s' t = cel s t ∧ cel s' u = cel s u ∧ pot s' t u = pot s t u := by
  have a := h.a.keep fun c hc => hk c (Or.inl hc)
  have b := h.b.keep fun c hc => hk c (Or.inr hc)
  refine ⟨a.1, b.1, cel_its a.2, cel_its b.2, ?_⟩
  unfold pot
  rw [mks_keep (s := s) (s' := s') fun c hc j => (hk c (Or.inl (List.mem_append_left _ hc))).2 j, mks_keep (s := s) (s' := s') fun c hc j => (hk c (Or.inr (List.mem_append_left _ hc))).2 j]
/-- item.New, where there is room -/
theorem new_inv (h : Inv s t u L M) (key serial : Int) (hx : 0 ≤ nextS s) : ∃ i : Nat, nextS s = (i : Int) ∧ Inv1 (newS s key serial) t u L M i ∧ hasS (newS s key serial) i 7 = key ∧ hasS (newS s key serial) i 8 = serial ∧ pot (newS s key serial) t u = pot s t u := by
  obtain ⟨n, e, h1, h2, h3, h4⟩ := take_view h.ok hx
  refine ⟨n, e, ?_⟩
  unfold newS
  rw [if_pos hx, e]
  have ok1 := h.ok.take
  have l1 : LS (takeS s) n = true := by rw [h2, if_pos rfl]
  have m1 := Sm.set ok1 (n : Int) 7 key
  have v1 : hasS (setS (takeS s) (n : Int) 7 key) = put (hasS (takeS s)) n 7 key := set_has (j := 7) l1 (by decide)
  have l2 : LS (setS (takeS s) (n : Int) 7 key) n = true := by rw [m1.ls]; exact l1
  have m2 := m1.trans (Sm.set m1.ok (n : Int) 8 serial)
  have v2 : hasS (setS (setS (takeS s) (n : Int) 7 key) (n : Int) 8 serial) = put (put (hasS (takeS s)) n 7 key) n 8 serial := by rw [← v1]; exact set_has (j := 8) l2 (by decide)
  generalize setS (setS (takeS s) (n : Int) 7 key) (n : Int) 8 serial = s3 at *
  have hne : ∀ c, c ∈ cel s t ∨ c ∈ cel s u → c ≠ n := fun c hc q => by
    have := hc.elim (h.a.live c) (h.b.live c)
    rw [q, h1] at this; cases this
  have hk : ∀ c, c ≠ n → LS s3 c = LS s c ∧ ∀ j, hasS s3 c j = hasS s c j := fun c hc => ⟨by rw [m2.ls, h2, if_neg hc], fun j => by rw [v2, put_ne hc, put_ne hc, h3, if_neg hc]⟩
  obtain ⟨a, b, ca, cb, pp⟩ := h.both (s' := s3) fun c hc => hk c (hne c hc)
  refine ⟨⟨m2.ok, a, b, by rw [ca, cb]; exact h.dj, ?_, ?_, ⟨fun q => hne n (Or.inl (ca ▸ q)) rfl, fun q => hne n (Or.inr (cb ▸ q)) rfl⟩, ?_⟩, ?_, ?_, pp⟩
  · rw [cnt_sm ok1 m2, h4, h.num]
  · rw [m2.ls]; exact l1
  · rw [v2, put_nj (by decide), put_nj (by decide), h3, if_pos rfl]; rfl
  · rw [v2, put_nj (by decide), put_at]
  · rw [v2, put_at]
/-- the item is given back -/
theorem give_inv (h : Inv1 s t u L M i) : Inv (giveS s (i : Int)) t u L M ∧ pot (giveS s (i : Int)) t u = pot s t u := by
  have e1 := give_ls h.live
  have e2 := give_has h.live
  obtain ⟨e3, e4⟩ := give_back h.live
  have hk : ∀ c, c ≠ i → LS (giveS s (i : Int)) c = LS s c ∧ ∀ j, hasS (giveS s (i : Int)) c j = hasS s c j := fun c hc => ⟨by rw [e1]; simp only; rw [if_neg hc], fun j => by rw [e2]⟩
  have a := h.a.keep (s' := giveS s (i : Int)) fun c hc => hk c fun q => h.out.1 (q ▸ hc)
  have b := h.b.keep (s' := giveS s (i : Int)) fun c hc => hk c fun q => h.out.2 (q ▸ hc)
  refine ⟨⟨h.ok.give, a.1, b.1, by rw [cel_its a.2, cel_its b.2]; exact h.dj, ?_⟩, by unfold pot; rw [e2]⟩
  have := h.ok.count
  have q := h.ok.give (c := (i : Int)) |>.count
  rw [e3, e4] at q
  simp at q
  have := h.num
  omega
/-- Take at no room: nothing but a step -/
theorem Inv1.full (h : Inv1 s t u L M i) (hx : ¬ 0 ≤ nextS s) : Inv1 (takeS s) t u L M i := by
  rw [take_full hx]
  exact h.tk 1
theorem it_inj (h : Hq s t.H t.T) {a b : Nat} (ha : a ∈ t.H) (hb : b ∈ t.H) (e : itF (hasS s) a = itF (hasS s) b) : a = b := by
  have h1 := (h.gh.fh.it a ha).2.2
  have h2 := (h.gh.fh.it b hb).2.2
  rw [e, h2] at h1; omega
/-- a node is taken out of the first heap -/
theorem rmx_inv {n : Nat} {T' : List Nat} {l1 l2 : List (Nat × Int × Int)} {x : Nat × Int × Int} (h : Inv s t u L M) (r : Rmx s s' t.H n T') (nH : n ∈ t.H) (hL : L = l1 ++ x :: l2) (hx : x.1 = itF (hasS s) n) :
    Inv1 s' ⟨t.H.erase n, T'⟩ u (l1 ++ l2) M x.1 ∧ mks (hasS s') u.H = mks (hasS s) u.H := by
  have fh := h.a.hq.gh.fh
  have hu : ∀ c ∈ cel s u, LS s' c = LS s c ∧ ∀ j, hasS s' c j = hasS s c j := fun c hc => by
    have c1 : c ∉ t.H := fun q => h.dj c (List.mem_append_left _ q) hc
    have c2 : c ≠ itF (hasS s) n := fun q => h.dj c (List.mem_append_right _ (List.mem_map.2 ⟨n, nH, q.symm⟩)) hc
    exact ⟨by rw [r.ls, if_neg (fun q : c = n => c1 (by rw [q]; exact nH))], r.out c c1 c2⟩
  have b := h.b.keep hu
  have itE : its s' ⟨t.H.erase n, T'⟩ = (t.H.erase n).map (itF (hasS s)) := by unfold its; rw [r.it]
  have sub : ∀ c ∈ cel s' ⟨t.H.erase n, T'⟩, c ∈ cel s t := fun c hc => by
    rcases List.mem_append.1 hc with z | z
    · exact List.mem_append_left _ (List.mem_of_mem_erase z)
    · rw [itE] at z
      obtain ⟨a, ha, e⟩ := List.mem_map.1 z
      exact List.mem_append_right _ (List.mem_map.2 ⟨a, List.mem_of_mem_erase ha, e⟩)
  have xin : x.1 ∈ cel s t := List.mem_append_right _ (List.mem_map.2 ⟨n, nH, hx.symm⟩)
  have pm : ((l1 ++ l2).map fun x => x.1).Perm ((t.H.erase n).map (itF (hasS s))) := by
    have p1 := h.a.pm
    unfold its at p1
    have p2 := (List.perm_cons_erase nH).map (itF (hasS s))
    have p3 : (L.map fun x => x.1).Perm (x.1 :: (l1 ++ l2).map fun x => x.1) := by
      rw [hL, List.map_append, List.map_append, List.map_cons]
      exact List.perm_middle
    have p4 := p3.symm.trans (p1.trans p2)
    rw [List.map_cons, hx] at p4
    exact p4.cons_inv
  refine ⟨⟨r.ok, ⟨r.hq, by rw [itE]; exact pm, fun y hy => ?_⟩, b.1, fun c hc q => h.dj c (sub c hc) (by rw [← cel_its b.2]; exact q), ?_, ?_, ⟨fun q => ?_, fun q => h.dj x.1 xin (by rw [← cel_its b.2]; exact q)⟩, by rw [hx]; exact r.free⟩, mks_keep fun c hc => (hu c (List.mem_append_left _ hc)).2⟩
  · have yL : y ∈ L := by rw [hL]; rcases List.mem_append.1 hy with z | z <;> simp [z]
    rw [r.key y.1 7 (by decide) (by omega), r.key y.1 8 (by decide) (by omega)]
    exact h.a.en y yL
  · have h1 := r.num
    have h2 := h.num
    have h3 : L.length = (l1 ++ l2).length + 1 := by rw [hL]; simp; omega
    omega
  · rw [r.ls, hx, if_neg (fh.sep n nH n nH)]; exact (fh.it n nH).2.1
  · rcases List.mem_append.1 q with z | z
    · have z1 : x.1 ∈ t.H := List.mem_of_mem_erase z
      exact fh.sep n nH x.1 z1 hx.symm
    · rw [itE] at z
      obtain ⟨a, ha, e⟩ := List.mem_map.1 z
      have ea := it_inj h.a.hq (List.mem_of_mem_erase ha) nH (e.trans hx)
      exact (fh.nd.mem_erase_iff.1 ha).1 ea
/-- Push -/
theorem push_inv {n : Nat} {T' : List Nat} (h : Inv1 s t u L M i) (p : Psh s s' t.H t.T T' n i) : Inv s' ⟨t.H ++ [n], T'⟩ u (L ++ [(i, hasS s i 7, hasS s i 8)]) M ∧ mks (hasS s') u.H = mks (hasS s) u.H := by
  have fh := h.a.hq.gh.fh
  have nl : ∀ c, LS s c = true → c ≠ n := fun c hc q => by rw [q, p.new] at hc; cases hc
  have hu : ∀ c ∈ cel s u, LS s' c = LS s c ∧ ∀ j, hasS s' c j = hasS s c j := fun c hc => by
    have c1 : c ∉ t.H := fun q => h.dj c (List.mem_append_left _ q) hc
    have c2 : c ≠ i := fun q => h.out.2 (q ▸ hc)
    have c3 := nl c (h.b.live c hc)
    exact ⟨by rw [p.ls, if_neg c3], fun j => p.out c c1 c3 j (Or.inl c2)⟩
  have b := h.b.keep hu
  have itE : its s' ⟨t.H ++ [n], T'⟩ = its s t ++ [i] := by
    unfold its
    rw [List.map_append]
    congr 1
    · refine List.map_congr_left fun c hc => ?_
      unfold itF
      rw [p.key c 6 (by decide) (nl c (fh.ln c hc)) (Or.inr (by decide))]
    · show [itF (hasS s') n] = [i]
      rw [p.it]
  have mem : ∀ c ∈ cel s' ⟨t.H ++ [n], T'⟩, c ∈ cel s t ∨ c = n ∨ c = i := fun c hc => by
    rcases List.mem_append.1 hc with z | z
    · rcases List.mem_append.1 z with z | z
      · exact Or.inl (List.mem_append_left _ z)
      · exact Or.inr (Or.inl (by simpa using z))
    · rw [itE] at z
      rcases List.mem_append.1 z with z | z
      · exact Or.inl (List.mem_append_right _ z)
      · exact Or.inr (Or.inr (by simpa using z))
  refine ⟨⟨p.ok, ⟨p.hq, by rw [itE, List.map_append]; exact h.a.pm.append_right _, fun y hy => ?_⟩, b.1, fun c hc q => ?_, ?_⟩, mks_keep fun c hc => (hu c (List.mem_append_left _ hc)).2⟩
  · rcases List.mem_append.1 hy with z | z
    · obtain ⟨m, mH, e⟩ := h.a.mem z
      have yl : LS s y.1 = true := by rw [← e]; exact (fh.it m mH).2.1
      rw [p.key y.1 7 (by decide) (nl _ yl) (Or.inr (by decide)), p.key y.1 8 (by decide) (nl _ yl) (Or.inr (by decide))]
      exact h.a.en y z
    · have z : y = (i, hasS s i 7, hasS s i 8) := by simpa using z
      rw [z]
      exact ⟨p.key i 7 (by decide) (nl _ h.live) (Or.inr (by decide)), p.key i 8 (by decide) (nl _ h.live) (Or.inr (by decide))⟩
  · rw [cel_its b.2] at q
    rcases mem c hc with z | z | z
    · exact h.dj c z q
    · exact nl c (h.b.live c q) z
    · exact h.out.2 (z ▸ q)
  · rw [p.num, h.num, List.length_append]; simp; omega
/-- Meld -/
theorem meld_inv {T' : List Nat} (h : Inv s t u L M) (m : Mld s s' t.H u.H t.T u.T T') : Inv s' ⟨t.H ++ u.H, T'⟩ nilQ (L ++ M) [] ∧ pot s' ⟨t.H ++ u.H, T'⟩ nilQ = pot s t u := by
  have it : its s' ⟨t.H ++ u.H, T'⟩ = its s t ++ its s u := by unfold its; rw [m.kp.it.1, List.map_append]
  refine ⟨⟨m.kp.sm.ok, ⟨m.hq, by rw [it, List.map_append]; exact (h.a.pm.append_right _).trans (List.Perm.append_left _ h.b.pm), fun x hx => ?_⟩, Hh.nil _, fun c _ q => by simp [cel, its, nilQ] at q, ?_⟩, ?_⟩
  · rw [m.kp.key x.1 7 (by decide), m.kp.key x.1 8 (by decide)]
    exact (List.mem_append.1 hx).elim (h.a.en x) (h.b.en x)
  · rw [cnt_sm h.ok m.kp.sm, h.num, List.length_append]; simp
  · have e1 : mks (hasS s') (nilQ : Fq).H = 0 := by simp [mks, nilQ]
    unfold pot
    rw [e1, m.mrk, m.len]
    simp [nilQ]
end
end Go.Proofs.YtckoglddhkbgkabGreat

/- The reference's Bits, Add, Limit. -/
namespace Go.Proofs.YtckoglddhkbgkabGreat
open Go.ChangeShapes Go.WideShapes Go.ChangeAt Go.RowKit

/-- how many binary digits n has -/
def bts (n : Nat) : Nat := if h : n = 0 then 0 else bts (n / 2) + 1
termination_by n
decreasing_by omega
theorem bts_zero : bts 0 = 0 := by unfold bts; rfl
theorem bts_half {n : Nat} (h : 0 < n) : bts n = bts (n / 2) + 1 := by rw [bts, dif_neg (by omega)]
theorem bts_lt : ∀ n : Nat, n < 2 ^ bts n := fun n => by
  induction n using Nat.strongRecOn with
  | ind n ih =>
    by_cases h : n = 0
    · subst h; simp [bts_zero]
    · have := ih (n / 2) (by omega)
      rw [bts_half (by omega), Nat.pow_succ]
      omega
theorem bts_le : ∀ (k n : Nat), n < 2 ^ k → bts n ≤ k
  | 0, n, h => by have : n = 0 := by simpa using h
                  subst this; rw [bts_zero]; exact Nat.le_refl _
  | k + 1, n, h => by
    by_cases h0 : n = 0
    · subst h0; rw [bts_zero]; omega
    · rw [bts_half (by omega)]
      have := bts_le k (n / 2) (by rw [Nat.pow_succ] at h; omega)
      omega

set_option maxHeartbeats 400000 in
theorem bitsR (n : Nat) (hn : n < 1048576) (w : World) :
    Calls Tryz.prog 67 #[.int .i64 (n : Int)] w fun e w' => e = .returned (.int .i64 (bts n : Nat)) ∧ w' = w := by
  have hb := bts_le 20 n hn
  go_enter Tryz.func67, Tryz.ntmps67
  go_wp2
  go_loop [0, 3] (fun m k => ∃ (x j : Nat), m = .int .i64 x ∧ k = .int .i64 j ∧ x < 1048576 ∧ j + bts x = bts n) (fun m _ => (intOf m).toNat)
  case atStart => exact ⟨n, 0, rfl, rfl, hn, by omega⟩
  case round =>
    obtain ⟨x, j, rfl, rfl, hx, hj⟩ := hrel
    have HJ := hid hj
    have hj20 : j ≤ 20 := by omega
    clear hj hb
    by_cases p : 0 < x
    · have p' : (0 : Int) < (x : Int) := by omega
      go_wp2
      go_round
      case rel => exact ⟨x / 2, j + 1, by go_num, by go_num, by omega, by have := HJ.out; rw [bts_half p] at this; omega⟩
      case measure => simp [intOf]; omega
    · obtain rfl : x = 0 := by omega
      go_wp2
      go_ret
      exact ⟨ret_int (by have := HJ.out; rw [bts_zero] at this; omega), rfl⟩

set_option maxHeartbeats 400000 in
theorem addR (a : Nat) (ha : a ≤ 1000000) (w : World) :
    Calls Tryz.prog 68 #[.int .i64 (a : Int), .int .i64 400] w fun e w' => e = .returned (.int .i64 ((a + 400 : Nat) : Int)) ∧ w' = w := by
  by_cases p : 0 < a
  · have p' : (0 : Int) < (a : Int) := by omega
    have q' : decide (9223372036854775807 - (a : Int) < 400) = false := by simp; omega
    go_enter Tryz.func68, Tryz.ntmps68
    go_wp2
    go_ret
    exact ⟨ret_int (by omega), rfl⟩
  · obtain rfl : a = 0 := by omega
    go_enter Tryz.func68, Tryz.ntmps68
    go_wp2
    go_ret
    exact ⟨ret_int (by omega), rfl⟩

set_option maxHeartbeats 400000 in
theorem limitR (n : Nat) (hn : n < 1048576) (w : World) :
    Calls Tryz.prog 43 #[.int .i64 500, .int .i64 400, .int .i64 (n : Int)] w fun e w' => e = .returned (.int .i64 ((500 + 400 * bts n : Nat) : Int)) ∧ w' = w := by
  have hb := bts_le 20 n hn
  have hc := hid (fun w => bitsR n hn w)
  generalize bts n = m at hb hc ⊢
  clear hn
  go_enter Tryz.func43, Tryz.ntmps43
  go_wp2_with fail
  refine (hc.out _).mono ?_
  rintro e w' ⟨rfl, rfl⟩
  clear hc
  go_wp2_with fail
  go_loop [7, 8] (fun s i => ∃ k : Nat, k ≤ m ∧ i = .int .i64 k ∧ s = .int .i64 ((500 + 400 * (m - k) : Nat) : Int)) (fun _ i => (intOf i).toNat)
  case atStart => exact ⟨m, Nat.le_refl _, rfl, by rw [Nat.sub_self]; rfl⟩
  case round =>
    obtain ⟨k, hk, rfl, rfl⟩ := hrel
    by_cases hlt : 0 < k
    · obtain ⟨z, hz⟩ : ∃ z, z = 500 + 400 * (m - k) := ⟨_, rfl⟩
      rw [← hz]
      have A := hid (fun w => addR z (by omega) w)
      have HZ := hid hz
      have hlt' : (0 : Int) < (k : Int) := by omega
      clear hz
      go_wp2_with fail
      refine (A.out _).mono ?_
      rintro e w' ⟨rfl, rfl⟩
      go_wp2
      go_round
      case rel => exact ⟨k - 1, by omega, by go_num, by rw [HZ.out]; congr 2; omega⟩
      case measure => simp [intOf]; omega
    · obtain rfl : k = 0 := by omega
      go_wp2
      go_ret
      exact ⟨ret_int (by simp), rfl⟩
end Go.Proofs.YtckoglddhkbgkabGreat

/- Which item is the least; what the calls answer, over heaps and lists. -/
namespace Go.Proofs.YtckoglddhkbgkabGreat
open Go.ChangeShapes Go.WideShapes Go.ChangeAt Go.RowKit
open Tr

theorem bts_self : ∀ n : Nat, bts n ≤ n := fun n => bts_le n n (Nat.lt_two_pow_self)
theorem bts_pos {n : Nat} (h : 0 < n) : 1 ≤ bts n := by rw [bts_half h]; omega
theorem bef_low {f : Nat → Nat → Int} {i j : Nat} {v : Int} (hv : v ≤ f i 7) (hj : j ≠ i) (h : befF f j i = false) : befF (put f i 7 v) j i = false := by
  have e1 : put f i 7 v j = f j := put_ne hj
  have e2 : put f i 7 v i 7 = v := put_at
  have e3 : put f i 7 v i 8 = f i 8 := put_nj (by decide)
  simp only [befF, bef, e1, e2, e3] at h ⊢
  simp at h ⊢
  omega
theorem bef_other {f : Nat → Nat → Int} {i a b : Nat} {v : Int} (ha : a ≠ i) (hb : b ≠ i) : befF f a b = befF (put f i 7 v) a b := by
  unfold befF; rw [put_ne ha, put_ne hb]

theorem bts_mono {a b : Nat} (h : a ≤ b) : bts a ≤ bts b := bts_le _ _ (Nat.lt_of_le_of_lt h (bts_lt b))
theorem befF_ne {f : Nat → Nat → Int} {a b : Nat} (h : a ≠ b) : befF f a b = true ∨ befF f b a = true := by
  simp [befF, bef]; omega
theorem befF_self (f : Nat → Nat → Int) (a : Nat) : befF f a a = false := by simp [befF, bef]
theorem befH_tot : (∀ x y, befH x y = true → befH y x = false) ∧ (∀ x y z, befH y x = false → befH z y = false → befH z x = false) ∧ (∀ x, befH x x = false) := by
  refine ⟨fun x y h => ?_, fun x y z h1 h2 => ?_, fun x => ?_⟩
  · simp [befH, bef] at h ⊢; omega
  · simp [befH, bef] at h1 h2 ⊢; omega
  · simp [befH, bef]
theorem lst_least (L : List (Nat × Int × Int)) : ∀ j, j < L.length → ∃ y, L[lstS L j]? = some y ∧ ∀ m ≤ j, ∀ x, L[m]? = some x → befH x y = false
  | 0, h => by
    refine ⟨L[0], List.getElem?_eq_getElem h, fun m hm x hx => ?_⟩
    obtain rfl : m = 0 := by omega
    rw [List.getElem?_eq_getElem h] at hx
    injection hx with hx
    subst hx
    exact befH_tot.2.2 _
  | j + 1, h => by
    obtain ⟨y, hy, hl⟩ := lst_least L j (by omega)
    have hx : L[j + 1]? = some L[j + 1] := List.getElem?_eq_getElem h
    unfold lstS
    rw [hx, hy]
    simp only
    by_cases q : befH L[j + 1] y = true
    · rw [if_pos q]
      refine ⟨L[j + 1], hx, fun m hm x hm' => ?_⟩
      by_cases e : m = j + 1
      · subst e; rw [hx] at hm'; injection hm' with hm'; subst hm'; exact befH_tot.2.2 _
      · exact befH_tot.2.1 _ y x (befH_tot.1 _ _ q) (hl m (by omega) x hm')
    · rw [if_neg q]
      refine ⟨y, hy, fun m hm x hm' => ?_⟩
      by_cases e : m = j + 1
      · subst e; rw [hx] at hm'; injection hm' with hm'; subst hm'; simpa using q
      · exact hl m (by omega) x hm'
theorem split_at {α : Type} {L : List α} {k : Nat} {y : α} (h : L[k]? = some y) : L = L.take k ++ y :: L.drop (k + 1) ∧ (L.take k).length = k := by
  obtain ⟨hk, e⟩ := List.getElem?_eq_some_iff.1 h
  subst e
  exact ⟨by rw [← List.drop_eq_getElem_cons hk, List.take_append_drop], by simp; omega⟩
theorem hh_nodup {s : St} {t : Fq} {L : List (Nat × Int × Int)} (h : Hh s t L) : (L.map fun x => x.1).Nodup := by
  refine h.pm.nodup_iff.2 ?_
  unfold its
  have : ∀ l : List Nat, l.Nodup → (∀ a ∈ l, a ∈ t.H) → (l.map (itF (hasS s))).Nodup := fun l hn hs => map_nd hn fun a ha b hb e => it_inj h.hq (hs a ha) (hs b hb) e
  exact this t.H h.hq.gh.fh.nd fun a ha => ha
/-- the least is the root's item -/
theorem least_item {s : St} {t : Fq} {L : List (Nat × Int × Int)} {r : Nat} {x : List Nat} (h : Hh s t L) (ht : t.T = r :: x) : ∃ y, L[lstS L (L.length - 1)]? = some y ∧ y.1 = itF (hasS s) r := by
  have rH : r ∈ t.H := ((h.hq.gh.fh.top.mem r).1 (by rw [ht]; simp)).1
  have hq := h.hq
  rw [ht] at hq
  have hall := lto_all hq.gh.fh hq.gh.od hq.lto
  have him : itF (hasS s) r ∈ L.map (fun x => x.1) := h.pm.mem_iff.2 (List.mem_map.2 ⟨r, rH, rfl⟩)
  obtain ⟨z, hz, hzi⟩ := List.mem_map.1 him
  have hlen : 0 < L.length := List.length_pos_of_mem hz
  obtain ⟨y, hy, hl⟩ := lst_least L (L.length - 1) (by omega)
  refine ⟨y, hy, ?_⟩
  have hF : ∀ x ∈ L, ∀ z ∈ L, befH x z = befF (hasS s) x.1 z.1 := fun x hx z hz => by
    have e1 := h.en x hx
    have e2 := h.en z hz
    unfold befH befF
    rw [e1.1, e1.2, e2.1, e2.2]
  have hym : y ∈ L := List.mem_of_getElem? hy
  obtain ⟨m, hm⟩ := List.mem_iff_getElem?.1 hz
  have hml : m < L.length := (List.getElem?_eq_some_iff.1 hm).1
  have q1 := hl m (by omega) z hm
  rw [hF z hz y hym, hzi] at q1
  obtain ⟨n, nH, en⟩ := h.mem hym
  have q2 : befF (hasS s) y.1 (itF (hasS s) r) = false := by rw [← en]; exact hall n nH
  rcases Nat.decEq y.1 (itF (hasS s) r) with e | e
  · rcases befF_ne (f := hasS s) e with z | z
    · rw [q2] at z; cases z
    · rw [q1] at z; cases z
  · exact e

/-- what is left when the least is popped -/
def popL (L : List (Nat × Int × Int)) : List (Nat × Int × Int) := L.take (lstS L (L.length - 1)) ++ L.drop (lstS L (L.length - 1) + 1)
theorem popL_nil : popL [] = [] := rfl
theorem popL_len {L : List (Nat × Int × Int)} (h : L ≠ []) : (popL L).length = L.length - 1 := by
  have h0 : 0 < L.length := List.length_pos_iff.2 h
  have := lstS_le L (L.length - 1)
  unfold popL
  simp; omega

theorem lst_some {L : List (Nat × Int × Int)} (h : L ≠ []) : ∃ x, L[lstS L (L.length - 1)]? = some x := by
  obtain ⟨y, hy, _⟩ := lst_least L (L.length - 1) (by have := List.length_pos_iff.2 h; omega)
  exact ⟨y, hy⟩
section
variable {F : Nat → Prop} {w0 w : World} {pa pm : Nat} {s : St} {t u : Fq} {L M l1 l2 : List (Nat × Int × Int)} {x : Nat × Int × Int} {i : Nat}
theorem room_two (h : Inv s t u L M) : 2 * (L.length + M.length) ≤ s.most := by
  have a := h.ok.count
  have b := h.ok.fits
  have c := h.num
  omega
theorem Ex.on {w' : World} {s' : St} (h : Ex F w0 w pa pm s) (e : Ex F w w' pa pm s') : Ex F w0 w' pa pm s' := ⟨e.is, h.kept.trans' e.kept⟩
theorem Aft.on {w' : World} {s' : St} (h : Aft F w0 w pa pm s) (e : Aft (Grow F w0 w) w w' pa pm s') : Aft F w0 w' pa pm s' := h.call e.is e.kept
theorem Aft.onx {w' : World} {s' : St} (h : Aft F w0 w pa pm s) (e : Ex (Grow F w0 w) w w' pa pm s') : Aft F w0 w' pa pm s' := h.back e
theorem Hh.tops {s : St} {t : Fq} {L : List (Nat × Int × Int)} (h : Hh s t L) (hL : L ≠ []) : ∃ r y, t.T = r :: y := by
  cases q : t.T with
  | nil =>
    have e1 := (fh_nil h.hq.gh.fh).1 q
    have := h.len
    rw [e1] at this
    exact absurd (List.eq_nil_of_length_eq_zero this.symm) hL
  | cons r y => exact ⟨r, y, rfl⟩
theorem mks_le (f : Nat → Nat → Int) (H : List Nat) : mks f H ≤ H.length := List.countP_le_length
theorem pot_le (h : Inv s t u L M) (hl : L.length + M.length ≤ 1000) : pot s t u ≤ 86000 := by
  have a1 := mks_le (hasS s) t.H
  have b1 := mks_le (hasS s) u.H
  have a2 := nodup_sub_len h.a.hq.gh.fh.top.nd fun c hc => ((h.a.hq.gh.fh.top.mem c).1 hc).1
  have b2 := nodup_sub_len h.b.hq.gh.fh.top.nd fun c hc => ((h.b.hq.gh.fh.top.mem c).1 hc).1
  have a3 := h.a.len
  have b3 := h.b.len
  unfold pot
  omega
/-- Min -/
theorem minC (h : Inv s t u L M) (hs : s.steps ≤ 95000000) (he : Ex F w0 w pa pm s) :
    Calls Tryz.prog 9 #[.pointer (some ⟨pa, 0, none⟩), .int .i64 (headr t)] w fun e w' => ∃ m : Int, e = .returned (.int .i64 m) ∧ (L = [] → m = -1) ∧ (∀ x, L[lstS L (L.length - 1)]? = some x → m = (x.1 : Int)) ∧ ∃ k, k ≤ 200 ∧ Ex F w0 w' pa pm (tk s k) := by
  refine (fminT h.a.hq h.ok he (by omega)).mono ?_
  rintro e w1 ⟨m, rfl, m1, m2, k, hk, e1⟩
  refine ⟨m, rfl, fun hL => ?_, fun x hx => ?_, k, by omega, e1⟩
  · have := h.a.none.2 hL
    exact m1 (by rw [this]; rfl)
  · have hL : L ≠ [] := fun e => by rw [e] at hx; simp at hx
    obtain ⟨r, y, e⟩ := h.a.tops hL
    obtain ⟨z, hz, hzi⟩ := least_item h.a e
    rw [hx] at hz
    injection hz with hz
    rw [hz, hzi]; exact m2 r y e
/-- Pop of none -/
theorem popC_none (h : Inv s t u [] M) (hs : s.steps ≤ 95000000) (he : Ex F w0 w pa pm s) :
    Calls Tryz.prog 19 #[.pointer (some ⟨pa, 0, none⟩), .int .i64 (headr t)] w fun e w' => ∃ k : Nat, e = .returned (.tuple #[.int .i64 (-1), .int .i64 (-1)]) ∧ k ≤ 10 ∧ Ex F w0 w' pa pm (tk s k) := by
  have ht := h.a.none.2 rfl
  have hq := h.a.hq
  rw [ht] at hq ⊢
  refine (fpopT_none h.ok he hq (by omega)).mono ?_
  rintro e w1 ⟨k, rfl, hk, e1⟩
  exact ⟨k, rfl, by omega, e1⟩
/-- Pop: what it costs beyond what may be leant on -/
theorem popC (h : Inv s t u L M) (hl : L.length ≤ 1000) (hxx : L[lstS L (L.length - 1)]? = some x) (hs : s.steps ≤ 95000000) (he : Aft F w0 w pa pm s) :
    Calls Tryz.prog 19 #[.pointer (some ⟨pa, 0, none⟩), .int .i64 (headr t)] w fun e w' => ∃ (t' : Fq) (s' : St), e = .returned (.tuple #[.int .i64 (headr t'), .int .i64 (x.1 : Int)]) ∧ Aft F w0 w' pa pm s' ∧ Inv1 s' t' u (popL L) M x.1 ∧ s'.most = s.most ∧ s.steps ≤ s'.steps ∧ s'.steps + pot s' t' u ≤ s.steps + pot s t u + 730 := by
  have hne : L ≠ [] := fun e => by subst e; simp at hxx
  obtain ⟨r, y, e⟩ := h.a.tops hne
  obtain ⟨z, hz, hzi⟩ := least_item h.a e
  rw [hxx] at hz
  injection hz with hz
  rw [← hz] at hzi
  have rH : r ∈ t.H := ((h.a.hq.gh.fh.top.mem r).1 (by rw [e]; simp)).1
  have hq := h.a.hq
  rw [e] at hq
  have C := fpopT hq (by rw [h.a.len]; exact hl) h.ok he.is (by omega)
  rw [show (r : Int) = headr t by unfold headr; rw [e]; rfl] at C
  refine C.mono ?_
  rintro e' w1 ⟨s', T', rfl, rm, a1, st1, st2⟩
  obtain ⟨I, mk⟩ := rmx_inv h rm rH (split_at hxx).1 hzi
  refine ⟨⟨t.H.erase r, T'⟩, s', by rw [hzi]; rfl, he.on a1, I, rm.most, st1, ?_⟩
  unfold pot
  rw [mk, e]
  simp only [List.length_cons]
  omega
/-- Cut -/
theorem cutC (h : Inv s t u L M) (hl : L.length ≤ 1000) (hL : L = l1 ++ x :: l2) (he : Aft F w0 w pa pm s) (hs : s.steps + pot s t u ≤ 95000000) :
    Calls Tryz.prog 31 #[.pointer (some ⟨pa, 0, none⟩), .int .i64 (headr t), .int .i64 (x.1 : Int)] w fun e w' => ∃ (t' : Fq) (s' : St), e = .returned (.int .i64 (headr t')) ∧ Aft F w0 w' pa pm s' ∧ Inv1 s' t' u (l1 ++ l2) M x.1 ∧ s'.most = s.most ∧ s.steps ≤ s'.steps ∧ s'.steps + pot s' t' u ≤ s.steps + pot s t u + 840 := by
  have hne : L ≠ [] := fun e => by rw [hL] at e; simp at e
  obtain ⟨r, y, e⟩ := h.a.tops hne
  obtain ⟨n, nH, en⟩ := h.a.mem (x := x) (by rw [hL]; simp)
  have hq := h.a.hq
  rw [e] at hq
  have C := fcutT (n := n) hq nH (by rw [h.a.len]; omega) h.ok he.is (by
    unfold pot at hs
    rw [e, List.length_cons] at hs
    omega)
  rw [show (r : Int) = headr t by unfold headr; rw [e]; rfl, en] at C
  refine C.mono ?_
  rintro e' w1 ⟨s', T', rfl, rm, a1, st1, st2⟩
  obtain ⟨I, mk⟩ := rmx_inv h rm nH hL en.symm
  refine ⟨⟨t.H.erase n, T'⟩, s', rfl, he.on a1, I, rm.most, st1, ?_⟩
  unfold pot
  rw [mk, e]
  simp only [List.length_cons]
  omega
/-- Push, where there is room -/
theorem pushC (h : Inv1 s t u L M i) (hx : 0 ≤ nextS s) (hs : s.steps ≤ 95000000) (he : Aft F w0 w pa pm s) :
    Calls Tryz.prog 17 #[.pointer (some ⟨pa, 0, none⟩), .int .i64 (headr t), .int .i64 (i : Int)] w fun e w' => ∃ (t' : Fq) (s' : St), e = .returned (.tuple #[.int .i64 (headr t'), .bool true]) ∧ Aft F w0 w' pa pm s' ∧ Inv s' t' u (L ++ [(i, hasS s i 7, hasS s i 8)]) M ∧ s'.most = s.most ∧ s.steps ≤ s'.steps ∧ s'.steps + pot s' t' u ≤ s.steps + pot s t u + 70 := by
  refine (fpushT i h.a.hq h.live h.free (fun q => h.out.1 (List.mem_append_left _ q)) hx h.ok he.is (by omega)).mono ?_
  rintro e w1 ⟨T', n, s', rfl, p, a1, st1, st2⟩
  obtain ⟨I, mk⟩ := push_inv h p
  refine ⟨⟨t.H ++ [n], T'⟩, s', rfl, he.on a1, I, p.most, st1, ?_⟩
  unfold pot
  have h1 := p.mrk
  have h2 := p.len
  rw [mk]
  simp only
  omega
/-- Push, where there is none -/
theorem pushC_no (h : Inv1 s t u L M i) (hx : ¬ 0 ≤ nextS s) (hs : s.steps ≤ 95000000) (he : Aft F w0 w pa pm s) :
    Calls Tryz.prog 17 #[.pointer (some ⟨pa, 0, none⟩), .int .i64 (headr t), .int .i64 (i : Int)] w fun e w' => ∃ s' : St, e = .returned (.tuple #[.int .i64 (headr t), .bool false]) ∧ Aft F w0 w' pa pm s' ∧ Inv1 s' t u L M i ∧ s'.most = s.most ∧ s.steps ≤ s'.steps ∧ s'.steps + pot s' t u ≤ s.steps + pot s t u + 10 := by
  refine (fpushT_no i (headr t) h.live h.free hx he.is (by omega)).mono ?_
  rintro e w1 ⟨rfl, a1⟩
  have hx' : ¬ 0 ≤ nextS (tk s 1) := hx
  have e1 := take_full hx'
  refine ⟨_, rfl, he.on a1, (h.tk 1).full hx', by rw [e1]; rfl, by rw [e1]; show s.steps ≤ s.steps + 1 + 1; omega, ?_⟩
  rw [e1]
  show s.steps + 1 + 1 + pot s t u ≤ _
  omega
end
end Go.Proofs.YtckoglddhkbgkabGreat

/- Fall, over heaps and lists. -/
namespace Go.Proofs.YtckoglddhkbgkabGreat
open Go.ChangeShapes Go.WideShapes Go.ChangeAt Go.RowKit
open Tr

section
variable {F : Nat → Prop} {w0 w : World} {pa pm : Nat} {s : St} {t u : Fq} {L M l1 l2 : List (Nat × Int × Int)} {x : Nat × Int × Int} {i : Nat}
/-- an item's Key is lowered: ahead of Fall, and behind it -/
theorem fall_inv (h : Inv s t u L M) (hL : L = l1 ++ x :: l2) (key : Int) (hk : key ≤ x.2.1) :
    lowB s (x.1 : Int) key = true ∧ (lowS s (x.1 : Int) key).steps = s.steps + 2 ∧ (lowS s (x.1 : Int) key).most = s.most ∧ Ok (lowS s (x.1 : Int) key) ∧ pot (lowS s (x.1 : Int) key) t u = pot s t u ∧
    ∃ (n r : Nat) (y : List Nat), t.T = r :: y ∧ n ∈ t.H ∧ itF (hasS (lowS s (x.1 : Int) key)) n = x.1 ∧ Ghx (lowS s (x.1 : Int) key) t.H (r :: y) n ∧ Fb (hasS (lowS s (x.1 : Int) key)) t.H ∧ (∀ c ∈ t.H, c ≠ n → befF (hasS (lowS s (x.1 : Int) key)) (itF (hasS (lowS s (x.1 : Int) key)) c) (itF (hasS (lowS s (x.1 : Int) key)) r) = false) ∧
      ∀ T' s', Fld (lowS s (x.1 : Int) key) s' t.H T' → Inv s' ⟨t.H, T'⟩ u (l1 ++ l2 ++ [(x.1, key, x.2.2)]) M ∧ mks (hasS s') u.H = mks (hasS (lowS s (x.1 : Int) key)) u.H := by
  obtain ⟨i, k0, ser⟩ := x
  simp only at hk ⊢
  have hxm : (i, k0, ser) ∈ L := by rw [hL]; simp
  have hne : L ≠ [] := fun e => by rw [e] at hxm; cases hxm
  have hen := h.a.en _ hxm
  simp only at hen
  obtain ⟨n, nH, en⟩ := h.a.mem hxm
  simp only at en
  obtain ⟨r, y, eT⟩ := h.a.tops hne
  have fh := h.a.hq.gh.fh
  have it := cel
  have lii : LS s i = true := by rw [← en]; exact (fh.it n nH).2.1
  have iT : i ∈ cel s t := List.mem_append_right _ (List.mem_map.2 ⟨n, nH, en⟩)
  have hiu : i ∉ cel s u := h.dj i iT
  have iH : i ∉ t.H := fun q => fh.sep n nH i q en
  have g7 : getS s (i : Int) 7 = k0 := (get_nat (j := 7) lii (by decide)).trans hen.1
  have eB : lowB s (i : Int) key = true := by unfold lowB; rw [g7, if_neg (by omega)]; exact may_nat (j := 7) lii (by decide)
  have eS : lowS s (i : Int) key = setS (tk s 1) (i : Int) 7 key := by unfold lowS; rw [g7, if_neg (by omega)]
  have sm : Sm s (lowS s (i : Int) key) := by rw [eS]; exact (Sm.tk h.ok 1).trans (Sm.set (Sm.tk h.ok 1).ok _ _ _)
  have hv : hasS (lowS s (i : Int) key) = put (hasS s) i 7 key := by rw [eS]; exact set_has (s := tk s 1) (j := 7) lii (by decide)
  have est : (lowS s (i : Int) key).steps = s.steps + 2 := by rw [eS, set_steps]; rfl
  generalize lowS s (i : Int) key = s1 at *
  have o7 : ∀ c j, j ≠ 7 → hasS s1 c j = hasS s c j := fun c j hj => by rw [hv, put_nj hj]
  have oc : ∀ c, c ≠ i → ∀ j, hasS s1 c j = hasS s c j := fun c hc j => by rw [hv, put_ne hc]
  have itE : itF (hasS s1) = itF (hasS s) := by funext a; unfold itF; rw [o7 a 6 (by decide)]
  have hH : ∀ c ∈ t.H, ∀ j, hasS s1 c j = hasS s c j := fun c hc j => oc c (fun q => iH (q ▸ hc)) j
  have uH : ∀ c ∈ cel s u, LS s1 c = LS s c ∧ ∀ j, hasS s1 c j = hasS s c j := fun c hc => ⟨by rw [sm.ls], fun j => oc c (fun q => hiu (q ▸ hc)) j⟩
  have mk1 : mks (hasS s1) t.H = mks (hasS s) t.H := mks_keep hH
  have mk2 : mks (hasS s1) u.H = mks (hasS s) u.H := mks_keep fun c hc => (uH c (List.mem_append_left _ hc)).2
  have off : ∀ a c, a ≠ i → c ≠ i → befF (hasS s1) a c = befF (hasS s) a c := fun a c ha hc => by rw [hv]; exact (bef_other ha hc).symm
  have low : ∀ c, c ≠ i → befF (hasS s) c i = false → befF (hasS s1) c i = false := fun c hc q => by rw [hv]; exact bef_low (by rw [hen.1]; exact hk) hc q
  have inj : ∀ a ∈ t.H, itF (hasS s) a = i → a = n := fun a ha e => it_inj h.a.hq ha nH (e.trans en.symm)
  have fh1 : Fh (LS s1) (hasS s1) t.H t.T := by
    obtain ⟨ht, hh⟩ := fh.ht
    have kd : ∀ p C, Kd (hasS s) t.H p C → Kd (hasS s1) t.H p C := fun p C k => by
      exact ⟨ring_like k.rg fun c _ => ⟨o7 c 3 (by decide), o7 c 2 (by decide)⟩, k.nd, fun c => by rw [o7 c 0 (by decide)]; exact k.mem c⟩
    refine ⟨fh.nd, fun c hc => by rw [sm.ls]; exact fh.ln c hc, fun c hc => ?_, fun a ha b hb => by rw [itE]; exact fh.sep a ha b hb, fun c hc => by rw [o7 c 0 (by decide)]; exact fh.up c hc, fun c hc => by rw [o7 c 5 (by decide)]; exact fh.mrk c hc, kd _ _ fh.top, fun p hp => ?_, ⟨ht, fun c hc p hp => hh c hc p (by rw [← o7 c 0 (by decide)]; exact hp)⟩⟩
    · rw [itE, sm.ls, o7 c 6 (by decide), o7 _ 9 (by decide)]; exact fh.it c hc
    · obtain ⟨C, c1, c2, c3⟩ := fh.ch p hp
      exact ⟨C, kd _ _ c1, by rw [o7 p 1 (by decide)]; exact c2, by rw [o7 p 4 (by decide)]; exact c3⟩
  have bef1 : ∀ a ∈ t.H, a ≠ n → ∀ b ∈ t.H, befF (hasS s) (itF (hasS s) a) (itF (hasS s) b) = false → befF (hasS s1) (itF (hasS s1) a) (itF (hasS s1) b) = false := fun a ha han b hb q => by
    rw [itE]
    have hai : itF (hasS s) a ≠ i := fun e => han (inj a ha e)
    by_cases z : itF (hasS s) b = i
    · rw [z] at q ⊢; exact low _ hai q
    · rw [off _ _ hai z]; exact q
  have fb1 : Fb (hasS s1) t.H := fun p hp C cn cm j => by
    have := h.a.hq.gh.fb p hp C cn (fun c => by rw [cm c, o7 c 0 (by decide)]) j
    refine Nat.le_trans (Nat.le_of_eq ?_) this
    exact List.countP_congr fun c _ => by rw [o7 c 4 (by decide), o7 c 5 (by decide)]
  have rH : r ∈ t.H := ((fh.top.mem r).1 (by rw [eT]; simp)).1
  have lall : ∀ c ∈ t.H, befF (hasS s) (itF (hasS s) c) (itF (hasS s) r) = false := by
    have hq := h.a.hq
    rw [eT] at hq
    exact lto_all hq.gh.fh hq.gh.od hq.lto
  refine ⟨eB, est, sm.most, sm.ok, by unfold pot; rw [mk1, mk2], n, r, y, eT, nH, by rw [itE]; exact en, ?_, fb1, fun c hc hcn => bef1 c hc hcn r rH (lall c hc), fun T' s' fl => ?_⟩
  · rw [← eT]
    refine ⟨fh1, fun d hd hdn p hp => ?_, fun p hp D dn dm j => Nat.le_trans (List.Sublist.countP_le List.erase_sublist) (fb1 p hp D dn dm j)⟩
    have hp' : hasS s d 0 = (p : Int) := by rw [← o7 d 0 (by decide)]; exact hp
    have pH : p ∈ t.H := by
      rcases fh.up d hd with q | ⟨p2, h2, q⟩
      · omega
      · have : p2 = p := by omega
        rw [← this]; exact h2
    exact bef1 d hd hdn p pH (h.a.hq.gh.od d hd p hp')
  · have kp := fl.kp
    have it2 : its s' ⟨t.H, T'⟩ = its s t := by unfold its; rw [kp.it.1, itE]
    have hnd := hh_nodup h.a
    rw [hL, List.map_append, List.map_cons] at hnd
    have hu : ∀ c ∈ cel s u, LS s' c = LS s c ∧ ∀ j, hasS s' c j = hasS s c j := fun c hc => by
      have c1 : c ∉ t.H := fun q => h.dj c (List.mem_append_left _ q) hc
      exact ⟨by rw [kp.sm.ls, sm.ls], fun j => by rw [kp.out c c1 j]; exact (uH c hc).2 j⟩
    have b := h.b.keep hu
    refine ⟨⟨kp.sm.ok, ⟨fl.hq, ?_, fun z hz => ?_⟩, b.1, fun c hc q => ?_, ?_⟩, (mks_keep fun c hc => (hu c (List.mem_append_left _ hc)).2).trans mk2.symm⟩
    · rw [it2]
      refine List.Perm.trans ?_ h.a.pm
      rw [hL]
      simp only [List.map_append, List.map_cons, List.map_nil, List.append_assoc]
      refine List.Perm.append_left _ ?_
      exact List.perm_append_comm
    · rw [kp.key z.1 7 (by decide), kp.key z.1 8 (by decide)]
      rw [List.mem_append] at hz
      rcases hz with hz | hz
      · have hzi : z.1 ≠ i := fun q => by
          rw [List.nodup_append, List.nodup_cons] at hnd
          rcases List.mem_append.1 hz with w | w
          · exact hnd.2.2 i (List.mem_map.2 ⟨z, w, q⟩) i (by simp) rfl
          · exact hnd.2.1.1 (List.mem_map.2 ⟨z, w, q⟩)
        rw [oc _ hzi, oc _ hzi]
        exact h.a.en z (by rw [hL]; rw [List.mem_append] at hz; simp; rcases hz with w | w; exact Or.inl w; exact Or.inr (Or.inr w))
      · simp at hz; subst hz
        simp only
        exact ⟨by rw [hv, put_at], by rw [o7 i 8 (by decide)]; exact hen.2⟩
    · rw [cel_its b.2] at q
      unfold cel at hc
      rw [it2] at hc
      exact h.dj c hc q
    · rw [cnt_sm sm.ok kp.sm, cnt_sm h.ok sm, h.num, hL]; simp
theorem low_steps (s : St) (c key : Int) : (lowS s c key).steps ≤ s.steps + 2 := by
  unfold lowS
  split
  · show s.steps + 1 ≤ _; omega
  · rw [set_steps]; show s.steps + 1 + 1 ≤ _; omega
/-- Fall, of an item whose Key was lowered -/
theorem fallC (h : Inv s t u L M) (hl : L.length ≤ 1000) (hL : L = l1 ++ x :: l2) (key : Int) (hk : key ≤ x.2.1) (he : Ex F w0 w pa pm (lowS s (x.1 : Int) key)) (hs : s.steps + pot s t u ≤ 95000000) :
    Calls Tryz.prog 27 #[.pointer (some ⟨pa, 0, none⟩), .int .i64 (headr t), .int .i64 (x.1 : Int)] w fun e w' => ∃ (t' : Fq) (s' : St), e = .returned (.int .i64 (headr t')) ∧ Ex F w0 w' pa pm s' ∧ Inv s' t' u (l1 ++ l2 ++ [(x.1, key, x.2.2)]) M ∧ s'.most = s.most ∧ s.steps + 2 ≤ s'.steps ∧ s'.steps + pot s' t' u ≤ s.steps + pot s t u + 140 := by
  obtain ⟨e1, e2, e3, e4, e5, n, r, y, eT, nH, en, gx, fb, lo, post⟩ := fall_inv h hL key hk
  have hp := hs
  have p0 := e5
  rw [← e5] at hp
  generalize lowS s (x.1 : Int) key = s1 at *
  have C := ffallT gx fb lo nH (by rw [h.a.len]; omega) e4 he (by
    unfold pot at hp
    rw [eT, List.length_cons] at hp
    omega)
  rw [show (r : Int) = headr t by unfold headr; rw [eT]; rfl, en] at C
  refine C.mono ?_
  rintro e' w1 ⟨s', T', rfl, fl, a1, st1, st2⟩
  obtain ⟨I, mk⟩ := post T' s' fl
  refine ⟨⟨t.H, T'⟩, s', rfl, a1, I, fl.kp.sm.most.trans e3, by omega, ?_⟩
  unfold pot at p0 ⊢
  rw [mk]
  rw [eT] at p0 ⊢
  simp only [List.length_cons] at p0 ⊢
  omega
end
end Go.Proofs.YtckoglddhkbgkabGreat

/- The laws' own world: an arena, two roots, two lists of what is held, three counters. -/
namespace Go.Proofs.YtckoglddhkbgkabGreat
open Go.ChangeShapes Go.WideShapes Go.ChangeAt Go.RowKit

/-- what is left alone: all of w but T -/
structure Fm where
  w : World
  T : Nat → Prop
def Fm.of (w : World) : Fm := ⟨w, fun _ => False⟩
/-- the world at pw -/
structure Wx (w0 : Fm) (w : World) (F : Nat → Prop) (pw pa pm : Nat) (v0 v1 : Value) (s : St) (r0 r1 : Int) (L0 L1 : List (Nat × Int × Int)) (nx sp mo : Int) : Prop where
  blk : w.heap[pw]? = some (.cells #[.pointer (some ⟨pa, 0, none⟩), .int .i64 r0, .int .i64 r1, v0, v1, .int .i64 nx, .int .i64 sp, .int .i64 mo] 32)
  is : IsA w F pa pm s
  out : ¬ F pw
  l0 : Lz (fun b => ¬ F b ∧ b ≠ pw) w v0 L0
  l1 : Lz (fun b => ¬ F b ∧ b ≠ pw) w v1 L1
  new : ∀ k, F k → w0.T k ∨ w0.w.heap.size ≤ k
  pwn : w0.T pw ∨ w0.w.heap.size ≤ pw
  kep : Kept w0.T w0.w w

section
variable {w0 : Fm} {w w' : World} {F : Nat → Prop} {pw pa pm : Nat} {v0 v1 : Value} {s s' : St} {r0 r1 : Int} {L0 L1 : List (Nat × Int × Int)} {nx sp mo : Int}
theorem Wx.lt (h : Wx w0 w F pw pa pm v0 v1 s r0 r1 L0 L1 nx sp mo) : pw < w.heap.size := lt_of_block h.blk
/-- a call of the arena that makes no blocks of its own -/
theorem Wx.ex (h : Wx w0 w F pw pa pm v0 v1 s r0 r1 L0 L1 nx sp mo) (e : Ex F w w' pa pm s') : Wx w0 w' F pw pa pm v0 v1 s' r0 r1 L0 L1 nx sp mo :=
  ⟨(e.kept.block pw h.lt h.out).trans h.blk, e.is, h.out, h.l0.kept e.kept (fun _ q => q.1), h.l1.kept e.kept (fun _ q => q.1), h.new, h.pwn, h.kep.over e.kept h.new⟩
theorem Wx.aft (h : Wx w0 w F pw pa pm v0 v1 s r0 r1 L0 L1 nx sp mo) (e : Aft F w w' pa pm s') : Wx w0 w' (Grow F w w') pw pa pm v0 v1 s' r0 r1 L0 L1 nx sp mo :=
  ⟨(e.kept.block pw h.lt h.out).trans h.blk, e.is, fun q => q.elim h.out fun q => by have := h.lt; omega,
   (h.l0.mono (Q := fun b => (¬ F b ∧ b ≠ pw) ∧ b < w.heap.size) (fun b hb q => ⟨q, hb⟩) |>.kept e.kept (fun _ q => q.1.1)).mono (fun b _ q => ⟨fun z => z.elim q.1.1 fun z => by have := q.2; omega, q.1.2⟩),
   (h.l1.mono (Q := fun b => (¬ F b ∧ b ≠ pw) ∧ b < w.heap.size) (fun b hb q => ⟨q, hb⟩) |>.kept e.kept (fun _ q => q.1.1)).mono (fun b _ q => ⟨fun z => z.elim q.1.1 fun z => by have := q.2; omega, q.1.2⟩),
   fun k q => q.elim (h.new k) fun q => Or.inr (Nat.le_trans h.kep.size q.1), h.pwn, h.kep.over e.kept h.new⟩
theorem Wx.plain (h : Wx w0 w F pw pa pm v0 v1 s r0 r1 L0 L1 nx sp mo) (k : Kept (fun _ => False) w w') : Wx w0 w' F pw pa pm v0 v1 s r0 r1 L0 L1 nx sp mo := h.ex ((Ex.start h.is).plain k)
theorem Wx.drewN (h : Wx w0 w F pw pa pm v0 v1 s r0 r1 L0 L1 nx sp mo) (n : Nat) : Wx w0 (w.drewN n) F pw pa pm v0 v1 s r0 r1 L0 L1 nx sp mo := h.plain ((Kept.refl _ _).drewN n)
/-- the block of the world is written -/
theorem Wx.wrote {v0' v1' : Value} {r0' r1' nx' sp' mo' : Int} {L0' L1' : List (Nat × Int × Int)} (h : Wx w0 w F pw pa pm v0 v1 s r0 r1 L0 L1 nx sp mo) (k : Kept (fun b => b = pw) w w')
    (hb : w'.heap[pw]? = some (.cells #[.pointer (some ⟨pa, 0, none⟩), .int .i64 r0', .int .i64 r1', v0', v1', .int .i64 nx', .int .i64 sp', .int .i64 mo'] 32)) (h0 : Lz (fun b => ¬ F b ∧ b ≠ pw) w' v0' L0') (h1 : Lz (fun b => ¬ F b ∧ b ≠ pw) w' v1' L1') :
    Wx w0 w' F pw pa pm v0' v1' s r0' r1' L0' L1' nx' sp' mo' :=
  ⟨hb, h.is.kept k (fun b hF q => h.out (q ▸ hF)), h.out, h0, h1, h.new, h.pwn, h.kep.over k fun b q => by rw [q]; exact h.pwn⟩
theorem Wx.cells (h : Wx w0 w F pw pa pm v0 v1 s r0 r1 L0 L1 nx sp mo) : w.cell? ⟨pw, 0, none⟩ = some (.pointer (some ⟨pa, 0, none⟩)) ∧ w.cell? ⟨pw, 1, none⟩ = some (.int .i64 r0) ∧ w.cell? ⟨pw, 2, none⟩ = some (.int .i64 r1) ∧ w.cell? ⟨pw, 3, none⟩ = some v0 ∧ w.cell? ⟨pw, 4, none⟩ = some v1 ∧ w.cell? ⟨pw, 5, none⟩ = some (.int .i64 nx) ∧ w.cell? ⟨pw, 6, none⟩ = some (.int .i64 sp) ∧ w.cell? ⟨pw, 7, none⟩ = some (.int .i64 mo) ∧ (∀ j, w.frozen? ⟨pw, j, none⟩ = false) :=
  ⟨blk_cell h.blk rfl, blk_cell h.blk rfl, blk_cell h.blk rfl, blk_cell h.blk rfl, blk_cell h.blk rfl, blk_cell h.blk rfl, blk_cell h.blk rfl, blk_cell h.blk rfl, fun _ => blk_free h.blk⟩
end
theorem kept_pw (w : World) (g o : Nat) (u : Value) : Kept (fun k => k = g) w (w.setCell ⟨g, o, none⟩ u) := (Kept.refl (fun k => k = g) w).setCell (p := ⟨g, o, none⟩) (Or.inl rfl) u

set_option maxHeartbeats 2000000 in
theorem costW (n t sp mo : Nat) (hn : n < 1048576) {w0 : Fm} {w : World} {F : Nat → Prop} {pw pa pm : Nat} {v0 v1 : Value} {s : St} {r0 r1 : Int} {L0 L1 : List (Nat × Int × Int)} {nx : Int} (h : Wx w0 w F pw pa pm v0 v1 s r0 r1 L0 L1 nx (sp : Int) (mo : Int)) (ht : t ≤ s.steps) (hs : s.steps ≤ 100000000) (hm : mo ≤ 100000000000) (hc : sp + s.steps ≤ mo + t + (500 + 400 * bts n)) :
    Calls Tryz.prog 18 #[.pointer (some ⟨pw, 0, none⟩), .int .i64 (t : Int), .int .i64 1, .int .i64 (n : Int)] w fun e w' => e = .returned (.bool true) ∧ ∃ sp' mo' : Nat, sp' + t = sp + s.steps ∧ mo' = mo + (500 + 400 * bts n) ∧ Wx w0 w' F pw pa pm v0 v1 s r0 r1 L0 L1 nx (sp' : Int) (mo' : Int) := by
  have HW := hid h
  have M := hid (meterA pa pm s F w h.is)
  have T := hid (stepsA pa pm s F w h.is)
  have B20 := bts_le 20 n hn
  have LI := hid (fun w => limitR n hn w)
  generalize bts n = bn at *
  obtain ⟨c0, c1, c2, c3, c4, c5, c6, c7, cf⟩ := h.cells
  have hlt := h.lt
  have f6 := cf 6
  have f7 := cf 7
  clear h c1 c2 c3 c4 c5 cf hn
  generalize hq : s.steps = q at *
  clear hq
  obtain ⟨x, hx⟩ : ∃ x : Nat, (q : Int) - (t : Int) = (x : Int) := ⟨q - t, by omega⟩
  have HX := hid hx
  have hx1 : x ≤ 100000000 := by omega
  obtain ⟨y, hy⟩ : ∃ y : Nat, y = 500 + 400 * bn := ⟨_, rfl⟩
  rw [← hy] at LI hc ⊢
  have hy1 : y ≤ 10000 := by omega
  have HY := hid hy
  have hd : decide ((sp : Int) + (x : Int) ≤ (mo : Int) + (y : Int)) = true := by simp; omega
  clear hy
  go_enter Tryz.func18, Tryz.ntmps18
  go_wp2_with fail
  refine M.out.mono ?_
  rintro e w1 ⟨rfl, rfl⟩
  go_wp2_with fail
  refine T.out.mono ?_
  rintro e w2 ⟨rfl, rfl⟩
  go_wp2_with fail
  refine (LI.out _).mono ?_
  rintro e w3 ⟨rfl, rfl⟩
  clear M T LI
  go_wp2_with fail
  go_region
  go_wp2
  have b1 := blk_set (j := 6) (u := .int .i64 ((sp : Int) + (x : Int))) HW.out.blk
  have b2 := blk_set (j := 7) (u := .int .i64 ((mo : Int) + (y : Int))) b1
  have kk := ((kept_pw w3 pw 6 (.int .i64 ((sp : Int) + (x : Int)))).trans' (kept_pw _ pw 7 (.int .i64 ((mo : Int) + (y : Int))))).drew
  have b3 : ((w3.setCell ⟨pw, 6, none⟩ (.int .i64 ((sp : Int) + (x : Int)))).setCell ⟨pw, 7, none⟩ (.int .i64 ((mo : Int) + (y : Int)))).drew.heap[pw]? = _ := b2
  simp at b3
  have HN := hid (HW.out.wrote kk b3 (HW.out.l0.kept kk fun _ q => q.2) (HW.out.l1.kept kk fun _ q => q.2))
  clear b1 b2 b3 kk c0 c6 c7 f6 f7 hlt HW
  generalize ((w3.setCell ⟨pw, 6, none⟩ (.int .i64 ((sp : Int) + (x : Int)))).setCell ⟨pw, 7, none⟩ (.int .i64 ((mo : Int) + (y : Int)))).drew = w4 at *
  obtain ⟨c0, c1, c2, c3, c4, c5, c6, c7, cf⟩ := HN.out.cells
  clear c0 c1 c2 c3 c4 c5 cf
  have hlt := HN.out.lt
  go_wp2
  first | go_ret | (go_region; go_wp2; go_ret)
  exact ⟨rfl, sp + x, mo + y, by omega, rfl, by have := HN.out.plain ((Kept.refl _ _).drew); simpa using this⟩
set_option maxHeartbeats 2000000 in
theorem costW0 (n t sp mo : Nat) {w0 : Fm} {w : World} {F : Nat → Prop} {pw pa pm : Nat} {v0 v1 : Value} {s : St} {r0 r1 : Int} {L0 L1 : List (Nat × Int × Int)} {nx : Int} (h : Wx w0 w F pw pa pm v0 v1 s r0 r1 L0 L1 nx (sp : Int) (mo : Int)) (ht : t ≤ s.steps) (hs : s.steps ≤ 100000000) (hm : mo ≤ 100000000000) (hc : sp + s.steps ≤ mo + t + 500) :
    Calls Tryz.prog 18 #[.pointer (some ⟨pw, 0, none⟩), .int .i64 (t : Int), .int .i64 0, .int .i64 (n : Int)] w fun e w' => e = .returned (.bool true) ∧ ∃ sp' mo' : Nat, sp' + t = sp + s.steps ∧ mo' = mo + 500 ∧ Wx w0 w' F pw pa pm v0 v1 s r0 r1 L0 L1 nx (sp' : Int) (mo' : Int) := by
  have HW := hid h
  have M := hid (meterA pa pm s F w h.is)
  have T := hid (stepsA pa pm s F w h.is)
  obtain ⟨c0, c1, c2, c3, c4, c5, c6, c7, cf⟩ := h.cells
  have hlt := h.lt
  have f6 := cf 6
  have f7 := cf 7
  clear h c1 c2 c3 c4 c5 cf
  generalize hq : s.steps = q at *
  clear hq
  obtain ⟨x, hx⟩ : ∃ x : Nat, (q : Int) - (t : Int) = (x : Int) := ⟨q - t, by omega⟩
  have HX := hid hx
  have hx1 : x ≤ 100000000 := by omega
  have hd : decide ((sp : Int) + (x : Int) ≤ (mo : Int) + 500) = true := by simp; omega
  go_enter Tryz.func18, Tryz.ntmps18
  go_wp2_with fail
  refine M.out.mono ?_
  rintro e w1 ⟨rfl, rfl⟩
  go_wp2_with fail
  refine T.out.mono ?_
  rintro e w2 ⟨rfl, rfl⟩
  clear M T
  go_wp2_with fail
  go_region
  go_wp2
  have b1 := blk_set (j := 6) (u := .int .i64 ((sp : Int) + (x : Int))) HW.out.blk
  have b2 := blk_set (j := 7) (u := .int .i64 ((mo : Int) + 500)) b1
  have kk := ((kept_pw w2 pw 6 (.int .i64 ((sp : Int) + (x : Int)))).trans' (kept_pw _ pw 7 (.int .i64 ((mo : Int) + 500)))).drew
  have b3 : ((w2.setCell ⟨pw, 6, none⟩ (.int .i64 ((sp : Int) + (x : Int)))).setCell ⟨pw, 7, none⟩ (.int .i64 ((mo : Int) + 500))).drew.heap[pw]? = _ := b2
  simp at b3
  have HN := hid (HW.out.wrote kk b3 (HW.out.l0.kept kk fun _ q => q.2) (HW.out.l1.kept kk fun _ q => q.2))
  clear b1 b2 b3 kk c0 c6 c7 f6 f7 hlt HW
  generalize ((w2.setCell ⟨pw, 6, none⟩ (.int .i64 ((sp : Int) + (x : Int)))).setCell ⟨pw, 7, none⟩ (.int .i64 ((mo : Int) + 500))).drew = w4 at *
  obtain ⟨c0, c1, c2, c3, c4, c5, c6, c7, cf⟩ := HN.out.cells
  clear c0 c1 c2 c3 c4 c5 cf
  have hlt := HN.out.lt
  go_wp2
  first | go_ret | (go_region; go_wp2; go_ret)
  exact ⟨rfl, sp + x, mo + 500, by omega, rfl, by have := HN.out.plain ((Kept.refl _ _).drew); simpa using this⟩
end Go.Proofs.YtckoglddhkbgkabGreat

/- The laws' world and its heaps together. -/
namespace Go.Proofs.YtckoglddhkbgkabGreat
open Go.ChangeShapes Go.WideShapes Go.ChangeAt Go.RowKit
open Tr

theorem Hh.item {s : St} {t : Fq} {L : List (Nat × Int × Int)} (h : Hh s t L) {x : Nat × Int × Int} (hx : x ∈ L) : LS s x.1 = true := by
  obtain ⟨n, nH, e⟩ := h.mem hx
  rw [← e]; exact (h.hq.gh.fh.it n nH).2.1
/-- the laws' world: what its heaps hold; how many cells there are; its steps at most -/
def Sit (w0 : Fm) (w : World) (pw N K : Nat) (L0 L1 : List (Nat × Int × Int)) (nx : Int) : Prop := ∃ F pa pm v0 v1 s, ∃ t u : Fq, ∃ sp mo : Nat, Wx w0 w F pw pa pm v0 v1 s (headr t) (headr u) L0 L1 nx (sp : Int) (mo : Int) ∧ Inv s t u L0 L1 ∧ (s.steps + pot s t u ≤ K ∧ sp + pot s t u ≤ mo ∧ mo ≤ 100 * K) ∧ s.most = N
theorem Sit.drewN {w0 : Fm} {w : World} {pw N K : Nat} {L0 L1 : List (Nat × Int × Int)} {nx : Int} (h : Sit w0 w pw N K L0 L1 nx) (n : Nat) : Sit w0 (w.drewN n) pw N K L0 L1 nx := by
  obtain ⟨F, pa, pm, v0, v1, s, t, u, sp, mo, h1, h2⟩ := h
  exact ⟨F, pa, pm, v0, v1, s, t, u, sp, mo, h1.drewN n, h2⟩
theorem Sit.mono {w0 : Fm} {w : World} {pw N K K' : Nat} {L0 L1 : List (Nat × Int × Int)} {nx : Int} (h : Sit w0 w pw N K L0 L1 nx) (hk : K ≤ K') : Sit w0 w pw N K' L0 L1 nx := by
  obtain ⟨F, pa, pm, v0, v1, s, t, u, sp, mo, h1, h2, h3, h4⟩ := h
  exact ⟨F, pa, pm, v0, v1, s, t, u, sp, mo, h1, h2, by omega, h4⟩
theorem Sit.kep {w0 : Fm} {w : World} {pw N K : Nat} {L0 L1 : List (Nat × Int × Int)} {nx : Int} (h : Sit w0 w pw N K L0 L1 nx) : Kept w0.T w0.w w := by
  obtain ⟨F, pa, pm, v0, v1, s, t, u, sp, mo, h1, h2⟩ := h
  exact h1.kep
theorem Sit.bel {w0 w : World} {pw N K : Nat} {L0 L1 : List (Nat × Int × Int)} {nx : Int} (h : Sit (Fm.of w0) w pw N K L0 L1 nx) : Below w0.heap.size w0 w := h.kep.below (Nat.le_refl _) fun _ e => e.elim
theorem Sit.plain {w0 : Fm} {w w' : World} {pw N K : Nat} {L0 L1 : List (Nat × Int × Int)} {nx : Int} (h : Sit w0 w pw N K L0 L1 nx) (k : Kept (fun _ => False) w w') : Sit w0 w' pw N K L0 L1 nx := by
  obtain ⟨F, pa, pm, v0, v1, s, t, u, sp, mo, h1, h2⟩ := h
  exact ⟨F, pa, pm, v0, v1, s, t, u, sp, mo, h1.plain k, h2⟩
/-- from here on: what may turn are the world's own blocks -/
theorem Sit.re {w0 : Fm} {w : World} {pw N K : Nat} {L0 L1 : List (Nat × Int × Int)} {nx : Int} (h : Sit w0 w pw N K L0 L1 nx) :
    ∃ T : Nat → Prop, (∀ b, T b → (w0.T b ∨ w0.w.heap.size ≤ b) ∧ b < w.heap.size) ∧ Sit ⟨w, T⟩ w pw N K L0 L1 nx := by
  obtain ⟨F, pa, pm, v0, v1, s, t, u, sp, mo, h1, h2⟩ := h
  have hlt := h1.lt
  refine ⟨fun b => F b ∨ b = pw, fun b hb => ?_, F, pa, pm, v0, v1, s, t, u, sp, mo, ⟨h1.blk, h1.is, h1.out, h1.l0, h1.l1, fun k hk => Or.inl (Or.inl hk), Or.inl (Or.inr rfl), Kept.refl _ _⟩, h2⟩
  rcases hb with hb | hb
  · exact ⟨h1.new b hb, h1.is.lt b hb⟩
  · subst hb; exact ⟨h1.pwn, hlt⟩
theorem pot_start (n : Int) : pot (st0 n) nilQ nilQ = 0 := by simp [pot, mks, nilQ]
end Go.Proofs.YtckoglddhkbgkabGreat
