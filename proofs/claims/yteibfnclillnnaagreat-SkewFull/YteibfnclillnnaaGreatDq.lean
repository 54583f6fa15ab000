/- Drop, as it turns two heaps. -/
import Derived.Test.YteibfnclillnnaaGreatAl
import Derived.Test.YteibfnclillnnaaGreatDp
namespace Go.Proofs.YteibfnclillnnaaGreat
open Go.ChangeShapes Go.WideShapes Go.ChangeAt Go.RowKit
open Tr

section
variable {s : St} {t u : List Bn} {L M : List (Nat × Int × Int)}
theorem nod_cells : ∀ {t : List Bn}, (cel t).Perm (nodn t ++ its t)
  | [] => .nil
  | b :: r => by
    have h := nod_cells (t := r)
    unfold cel nodn its at *
    rw [List.flatMap_cons, List.flatMap_cons, List.flatMap_cons]
    have e := bn_cells b
    rw [List.perm_iff_count] at h e ⊢
    intro a
    have h1 := h a
    have h2 := e a
    simp only [List.count_append, List.count_cons, bnod] at h1 h2 ⊢
    omega
theorem nod_sub {t : List Bn} {n : Nat} (h : n ∈ nodn t) : n ∈ cel t := nod_cells.mem_iff.2 (List.mem_append_left _ h)
theorem nodes_nodup {t : List Bn} (h : (cel t).Nodup) : (nodn t).Nodup ∧ (its t).Nodup ∧ ∀ n ∈ nodn t, n ∉ its t := by
  have := nod_cells.nodup_iff.1 h
  rw [List.nodup_append] at this
  exact ⟨this.1, this.2.1, fun n hn q => this.2.2 n hn n q rfl⟩
/-- the nodes are given back -/
theorem dg_heap (h : Inv s t u L M) {D : List Nat} (hD : D.Perm (nodn t)) (q : Nat) : Dgv (itS s) D (tk s q) (dgS (tk s q) D) ∧ ∀ i ∈ (its t), LS (dgS (tk s q) D) i = true ∧ hasS (dgS (tk s q) D) i 9 = -1 := by
  obtain ⟨n1, n2, n3⟩ := nodes_nodup h.a.gd.nd
  have hp : ∀ b ∈ t, Vb (LS s) (hasS s) b := fun b hb => (h.a.gd.vb b hb).1
  have hln : ∀ n ∈ D, LS s n = true := fun n hn => h.a.gd.live n (nod_sub (hD.mem_iff.1 hn))
  have g := dg_view (itS s) D (tk s q) (Sm.tk h.ok q).ok (hD.nodup_iff.2 n1) (fun n hn => by
    obtain ⟨a, b, _, _⟩ := bh_six hp n (hD.mem_iff.1 hn)
    exact ⟨hln n hn, b, a⟩) (fun n hn m hm e => by
    obtain ⟨_, _, c, _⟩ := bh_six hp m (hD.mem_iff.1 hm)
    exact n3 n (hD.mem_iff.1 hn) (e ▸ c))
  refine ⟨g, fun i hi => ⟨?_, ?_⟩⟩
  · rw [g.ls i (fun z => n3 i (hD.mem_iff.1 z) hi)]
    exact h.a.gd.live i (its_sub hi)
  · rw [its_map hp] at hi
    obtain ⟨n, hn, e⟩ := List.mem_map.1 hi
    rw [← e]
    exact g.free n (hD.mem_iff.2 hn)
/-- and then the items -/
theorem drop_inv (h : Inv s t u L M) {D m : List Nat} (hD : D.Perm (nodn t)) (hm : m.Perm (its t)) (q : Nat) : Inv (giS (dgS (tk s q) D) m) [] u [] M := by
  obtain ⟨g, gi⟩ := dg_heap h hD q
  obtain ⟨n1, n2, n3⟩ := nodes_nodup h.a.gd.nd
  have v := gi_view m (dgS (tk s q) D) g.ok (hm.nodup_iff.2 n2) (fun i hi => (gi i (hm.mem_iff.1 hi)).1)
  have huc : ∀ c ∈ cel u, c ∉ D ∧ c ∉ m ∧ ∀ n ∈ D, itS s n ≠ c := fun c hc => ⟨fun z => h.dj c (nod_sub (hD.mem_iff.1 z)) hc, fun z => h.dj c (its_sub (hm.mem_iff.1 z)) hc, fun n hn e => by
    obtain ⟨_, _, z, _⟩ := bh_six (fun b hb => (h.a.gd.vb b hb).1) n (hD.mem_iff.1 hn)
    exact h.dj c (its_sub (e ▸ z)) hc⟩
  refine ⟨v.ok, Hh.nil _, h.b.keep fun c hc => ?_, fun c hc => by simp [cel] at hc, ?_⟩
  · obtain ⟨h1, h2, h3⟩ := huc c hc
    refine ⟨by rw [v.ls c h2, g.ls c h1]; rfl, fun j => by rw [v.rest, g.rest c j (Or.inr h3)]; rfl⟩
  · have c1 := v.ok.count
    have c2 := h.ok.count
    rw [v.num, v.len, g.num, g.len] at c1
    have e1 : (tk s q).back = s.back := rfl
    have e2 : (tk s q).pl = s.pl := rfl
    rw [e1, e2] at c1
    have c3 := h.num
    have c4 : D.length = L.length := by rw [hD.length_eq, nod_len (fun b hb => (h.a.gd.vb b hb).1), h.a.len]
    have c5 : m.length = L.length := by rw [hm.length_eq, h.a.len]
    simp
    omega
end
end Go.Proofs.YteibfnclillnnaaGreat
