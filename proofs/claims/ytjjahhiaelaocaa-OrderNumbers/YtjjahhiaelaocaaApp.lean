/- Appending entries to a slice that the call owns: what is appended stands behind what was there. -/
import Derived.Test.YtjjahhiaelaocaaOo1
import Derived.Deep.RegionLaw
namespace Go.Proofs.Ytjjahhiaelaocaa
open Go.ChangeShapes Go.WideShapes Go.ChangeAt Go.RowKit

theorem ents_src {w : World} {ad : Addr} {l : List (Int × Int)} (h : Ents w (some ad) l) (j : Nat) (u : Value) (hu : (flat l)[j]? = some u) : w.cell? (ad.add j) = some u := by
  rcases h with rfl | ⟨b, off, e, _, hr⟩
  · simp [flat] at hu
  · cases e; exact hr.src j u hu

theorem append_ents (w : World) (base : Nat) (ty : TypeId) (v : Value) (m news : List (Int × Int)) (ax : Option Addr) (cx : Nat) (hown : w.ownsRow base 26 2 v m.length (flat m)) (hx : Ents w ax news) (h0 : ax = none → cx = 0)
    (hm : m.length + news.length ≤ 1000000) (hbase : base ≤ w.heap.size) :
    ∃ v' w', (Builtin.append_ #[27, 27] ty #[v, .slice ax news.length cx]).run Try.prog w = .ok v' w' ∧ w'.ownsRow base 26 2 v' (m ++ news).length (flat (m ++ news)) ∧ w.grownBy w' v.ownBlock ∧ (v ≠ .slice none 0 0 → v' ≠ .slice none 0 0) := by
  obtain ⟨i, hi, z0, z1, z2⟩ := info_parts info26
  cases ax with
  | none =>
    have hn : news = [] := by
      rcases hx with h | ⟨_, _, h, _⟩
      · exact h
      · cases h
    subst hn
    rw [h0 rfl]
    refine ⟨v, w, run_append_owned_none (P := Try.prog) w base 27 ty 26 i 2 Try.underlying27 hi v m.length (flat m) hown, by simpa using hown, ⟨rfl, rfl, rfl, Nat.le_refl _, fun _ _ _ => rfl⟩, fun h => h⟩
  | some ad =>
    obtain ⟨v', w', hr, h1, h2, h3⟩ := run_append_own (P := Try.prog) w base 27 ty 26 i _ 2 16 Try.underlying27 hi z0 z1 z2 rfl (by decide) v m.length (flat m) hown ad news.length cx (flat news) (flat_length news) (fun j u h => ents_src hx j u h) (flat_one news) (by simp [maxLen]; omega) (by omega) hbase
    refine ⟨v', w', hr, by rw [flat_append, List.length_append]; exact h1, h2, fun h e => h (h3.1 e).1⟩

theorem Ents.grown {w w' : World} {a : Option Addr} {l : List (Int × Int)} {row : Option Nat} (h : Ents w a l) (hg : w.grownBy w' row) (hne : ∀ b off, a = some ⟨b, off, none⟩ → some b ≠ row) : Ents w' a l := by
  rcases h with h | ⟨b, off, e, hb, hr⟩
  · exact Or.inl h
  · exact Or.inr ⟨b, off, e, Nat.lt_of_lt_of_le hb hg.size, fun i hi => ⟨hg.cell (hr i hi).1 (hne b off e), hg.cell (hr i hi).2 (hne b off e)⟩⟩

/-- append, as one step of a region that draws its order -/
theorem step_append_ents {ops : Array Oper} {o : Oper} {a : Act} {w : World} {K : Act → World → Prop} {Q : Exit → Act → World → Prop} {E : Prop} (hg : o.guard = none) (s x : Operand)
    (ho : o.op = Op.call { callee := Callee.builtin Builtin.append, args := #[s, x], argTypes := #[27, 27] })
    (base : Nat) (v : Value) (m news : List (Int × Int)) (ax : Option Addr) (cx n : Nat) (hs : a.eval s = v) (hxe : a.eval x = .slice ax n cx) (hn : n = news.length)
    (hown : w.ownsRow base 26 2 v m.length (flat m)) (hx : Ents w ax news) (h0 : ax = none → cx = 0) (hm : m.length + news.length ≤ 1000000) (hbase : base ≤ w.heap.size)
    (hK : ∀ v' w', w'.ownsRow base 26 2 v' (m ++ news).length (flat (m ++ news)) → Below base w w' → w.grownBy w' v.ownBlock → K (a.put o.dst v') w') :
    if Region.wanted o (yielded ops a.tmps) = true then Oper.wp Try.prog o a w K Q else E := by
  have hw : Region.wanted o (yielded ops a.tmps) = true := by simp [Region.wanted, hg]
  rw [if_pos hw]
  subst hn
  obtain ⟨v', w', hrun, r1, r2, _⟩ := append_ents w base o.type v m news ax cx hown hx h0 hm hbase
  unfold Oper.wp
  simp [execOp, ho, resolve, invoke, builtin, hs, hxe, hrun, Result.andThen]
  exact hK v' w' r1 ((Below.refl _ _).grown r2 hbase (own_block_ge hown)) r2
end Go.Proofs.Ytjjahhiaelaocaa
