/- Several texts in one. -/
import Derived.Test.YtckoglddhkbgkabGreatGe
import Derived.Test.YtckoglddhkbgkabGreatXr
import Derived.Test.YtckoglddhkbgkabGreatXs
/- How great the trees of a heap are, all together. -/
namespace Go.Proofs.YtckoglddhkbgkabGreat
open Go.ChangeShapes Go.WideShapes Go.ChangeAt Go.RowKit
open Tr

section
variable {L : Nat → Bool} {f : Nat → Nat → Int} {H T : List Nat} {ht : Nat → Nat}
theorem kid_none (hh : ∀ c ∈ H, ∀ p : Nat, f c 0 = (p : Int) → ht c < ht p) {n : Nat} (h0 : ht n = 0) : kidF f H n = [] := by
  cases q : kidF f H n with
  | nil => rfl
  | cons c r =>
    have hc : c ∈ kidF f H n := by rw [q]; simp
    have := hh c (kid_mem.1 hc).1 n (kid_mem.1 hc).2
    omega
theorem flat_congr {g k : Nat → List Nat} : ∀ {l : List Nat}, (∀ a ∈ l, g a = k a) → l.flatMap g = l.flatMap k
  | [], _ => rfl
  | a :: r, h => by rw [List.flatMap_cons, List.flatMap_cons, h a (by simp), flat_congr fun b hb => h b (by simp [hb])]
theorem desc_more (hh : ∀ c ∈ H, ∀ p : Nat, f c 0 = (p : Int) → ht c < ht p) : ∀ (a b n : Nat), ht n ≤ a → ht n ≤ b → desc f H a n = desc f H b n
  | 0, 0, n, _, _ => rfl
  | 0, b + 1, n, ha, _ => by simp [desc, kid_none hh (show ht n = 0 by omega)]
  | a + 1, 0, n, _, hb => by simp [desc, kid_none hh (show ht n = 0 by omega)]
  | a + 1, b + 1, n, ha, hb => by
    simp only [desc]
    congr 1
    refine flat_congr fun c hc => desc_more hh a b c ?_ ?_ <;>
    · have := hh c (kid_mem.1 hc).1 n (kid_mem.1 hc).2; omega
theorem desc_kid (hh : ∀ c ∈ H, ∀ p : Nat, f c 0 = (p : Int) → ht c < ht p) : ∀ (h n p c : Nat), ht n ≤ h → p ∈ desc f H h n → c ∈ kidF f H p → c ∈ desc f H h n
  | 0, n, p, c, hn, hp, hc => by
    simp [desc] at hp
    subst hp
    rw [kid_none hh (by omega)] at hc; cases hc
  | h + 1, n, p, c, hn, hp, hc => by
    simp only [desc, List.mem_cons, List.mem_flatMap] at hp ⊢
    rcases hp with rfl | ⟨d, hd, hp⟩
    · exact Or.inr ⟨c, hc, desc_self _ _⟩
    · have := hh d (kid_mem.1 hd).1 n (kid_mem.1 hd).2
      exact Or.inr ⟨d, hd, desc_kid hh h d p c (by omega) hp hc⟩
theorem ht_bound (ht : Nat → Nat) : ∀ l : List Nat, ∃ B, ∀ c ∈ l, ht c ≤ B
  | [] => ⟨0, fun c hc => by cases hc⟩
  | a :: l => by
    obtain ⟨B, hB⟩ := ht_bound ht l
    refine ⟨max (ht a) B, fun c hc => ?_⟩
    rcases List.mem_cons.1 hc with e | hc
    · rw [e]; omega
    · have := hB c hc; omega
theorem top_desc (h : Fh L f H T) (hh : ∀ c ∈ H, ∀ p : Nat, f c 0 = (p : Int) → ht c < ht p) {K : Nat} (hK : ∀ c ∈ H, ht c ≤ K) : (T.flatMap (desc f H K)).Perm H := by
  have tH : ∀ t ∈ T, t ∈ H ∧ f t 0 = -1 := fun t ht' => (h.top.mem t).1 ht'
  refine (List.perm_ext_iff_of_nodup (flat_nd h.top.nd (fun a _ => desc_nd h.nd hh K a) fun a ha b hb hab x hx hy => ?_) h.nd).2 fun x => ⟨fun hx => ?_, fun hx => ?_⟩
  · exact desc_apart hh (n := 0) (tH a ha).1 (tH b hb).1 ((tH a ha).2.trans (tH b hb).2.symm) (Or.inr (tH a ha).2) hab _ x (Nat.le_refl _) hx hy
  · obtain ⟨t, ht', hx⟩ := List.mem_flatMap.1 hx
    exact desc_sub K t x (tH t ht').1 hx
  · have go : ∀ k c, c ∈ H → K - ht c ≤ k → ∃ t ∈ T, c ∈ desc f H K t := by
      intro k
      induction k with
      | zero =>
        intro c hc hk
        rcases h.up c hc with e | ⟨p, hp, e⟩
        · exact ⟨c, (h.top.mem c).2 ⟨hc, e⟩, desc_self _ _⟩
        · have := hh c hc p e; have := hK p hp; omega
      | succ k ih =>
        intro c hc hk
        rcases h.up c hc with e | ⟨p, hp, e⟩
        · exact ⟨c, (h.top.mem c).2 ⟨hc, e⟩, desc_self _ _⟩
        · have h1 := hh c hc p e
          have h2 := hK p hp
          obtain ⟨t, ht', hpt⟩ := ih p hp (by omega)
          exact ⟨t, ht', desc_kid hh K t p c (hK t (tH t ht').1) hpt (kid_mem.2 ⟨hc, e⟩)⟩
    obtain ⟨t, ht', hx'⟩ := go _ x hx (Nat.le_refl _)
    exact List.mem_flatMap.2 ⟨t, ht', hx'⟩
theorem flat_len (g : Nat → List Nat) : ∀ l : List Nat, (l.flatMap g).length = (l.map fun c => (g c).length).sum
  | [] => rfl
  | a :: r => by rw [List.flatMap_cons, List.length_append, flat_len g r]; simp
/-- how many nodes are below each one (itself too) -/
theorem fh_sizes (h : Fh L f H T) (b : Fb f H) : ∃ sz ht : Nat → Nat, (∀ c ∈ H, ∀ p : Nat, f c 0 = (p : Int) → ht c < ht p) ∧
    (∀ n ∈ H, ∀ C : List Nat, Kd f H (n : Int) C → sz n = 1 + (C.map sz).sum ∧ gF C.length ≤ sz n) ∧ (∀ n ∈ H, 1 ≤ sz n ∧ sz n ≤ H.length) ∧ (T.map sz).sum = H.length := by
  obtain ⟨ht, hh⟩ := h.ht
  obtain ⟨K, hK⟩ := ht_bound ht H
  refine ⟨fun n => (desc f H K n).length, ht, hh, fun n hn C hC => ?_, fun n hn => ⟨List.length_pos_of_mem (desc_self K n), nodup_sub_len (desc_nd h.nd hh K n) fun x hx => desc_sub K n x hn hx⟩, ?_⟩
  · have pm := kid_perm h.nd hC
    refine ⟨?_, by rw [pm.length_eq]; exact desc_size h b hh K n hn (hK n hn)⟩
    have e : desc f H K n = desc f H (K + 1) n := desc_more hh K (K + 1) n (hK n hn) (by have := hK n hn; omega)
    simp only
    rw [e]
    simp only [desc, List.length_cons]
    rw [flat_len, (pm.map fun c => (desc f H K c).length).sum_nat]
    omega
  · rw [← flat_len]
    exact (top_desc h hh hK).length_eq
end
end Go.Proofs.YtckoglddhkbgkabGreat

/- The laws' ring of None. -/
namespace Go.Proofs.YtckoglddhkbgkabGreat
open Go.ChangeShapes Go.WideShapes Go.ChangeAt Go.RowKit
open Tr

theorem ring_none (pw : Nat) (h : Int) (w : World) : Calls Tryz.prog 57 #[.pointer (some ⟨pw, 0, none⟩), .int .i64 h, .int .i64 (-1)] w fun e w' => e = .returned (.tuple #[.slice none 0 0, .bool true]) ∧ w' = w := by
  go_enter Tryz.func57, Tryz.ntmps57
  go_wp2
  go_ret2
  exact ⟨rfl, rfl⟩
/-- the ring of a list, of a heap of either kind of end -/
theorem ringL0 {w0 : Fm} {w : World} {F : Nat → Prop} {pw pa pm : Nat} {v0 v1 : Value} {s : St} {r0 r1 : Int} {L0 L1 : List (Nat × Int × Int)} {nx sp mo : Int} (C : List Nat) (h : Wx w0 w F pw pa pm v0 v1 s r0 r1 L0 L1 nx sp mo) (hr : Ring (hasS s) C) (hn : C.Nodup) (hl : ∀ d ∈ C, LS s d = true) (ok : Ok s) (hlen : C.length ≤ L0.length) (hl1 : L0.length ≤ 1000) (hs : s.steps ≤ 90000000) :
    Calls Tryz.prog 57 #[.pointer (some ⟨pw, 0, none⟩), .int .i64 0, .int .i64 (hdL C)] w fun e w' =>
      ∃ v, e = .returned (.tuple #[v, .bool true]) ∧ Own w' w.heap.size v (nd1 C) ∧ ∃ k, k ≤ 2 * C.length ∧ Ex F w w' pa pm (tk s k) := by
  cases C with
  | nil =>
    refine (ring_none pw 0 w).mono ?_
    rintro e w1 ⟨rfl, rfl⟩
    exact ⟨_, rfl, World.ownsRow_nil _ _ _ _, 0, Nat.zero_le _, Ex.start h.is⟩
  | cons c x =>
    refine (ring0 c x h hr hn hl ok (by simpa using hlen) hl1 hs).mono ?_
    rintro e w1 ⟨v, rfl, o, e1⟩
    exact ⟨v, rfl, o, 2 + 2 * x.length, by rw [List.length_cons]; omega, e1⟩
theorem ringL1 {w0 : Fm} {w : World} {F : Nat → Prop} {pw pa pm : Nat} {v0 v1 : Value} {s : St} {r0 r1 : Int} {L0 L1 : List (Nat × Int × Int)} {nx sp mo : Int} (C : List Nat) (h : Wx w0 w F pw pa pm v0 v1 s r0 r1 L0 L1 nx sp mo) (hr : Ring (hasS s) C) (hn : C.Nodup) (hl : ∀ d ∈ C, LS s d = true) (ok : Ok s) (hlen : C.length ≤ L1.length) (hl1 : L1.length ≤ 1000) (hs : s.steps ≤ 90000000) :
    Calls Tryz.prog 57 #[.pointer (some ⟨pw, 0, none⟩), .int .i64 1, .int .i64 (hdL C)] w fun e w' =>
      ∃ v, e = .returned (.tuple #[v, .bool true]) ∧ Own w' w.heap.size v (nd1 C) ∧ ∃ k, k ≤ 2 * C.length ∧ Ex F w w' pa pm (tk s k) := by
  cases C with
  | nil =>
    refine (ring_none pw 1 w).mono ?_
    rintro e w1 ⟨rfl, rfl⟩
    exact ⟨_, rfl, World.ownsRow_nil _ _ _ _, 0, Nat.zero_le _, Ex.start h.is⟩
  | cons c x =>
    refine (ring1 c x h hr hn hl ok (by simpa using hlen) hl1 hs).mono ?_
    rintro e w1 ⟨v, rfl, o, e1⟩
    exact ⟨v, rfl, o, 2 + 2 * x.length, by rw [List.length_cons]; omega, e1⟩
end Go.Proofs.YtckoglddhkbgkabGreat

/- What the laws' tree and shape want of a heap. -/
namespace Go.Proofs.YtckoglddhkbgkabGreat
open Go.ChangeShapes Go.WideShapes Go.ChangeAt Go.RowKit
open Tr

/-- what is so of a node's children C -/
structure Kid (s : St) (H : List Nat) (sz ht : Nat → Nat) (p : Nat) (C : List Nat) : Prop where
  ring : Ring (hasS s) C
  nd : C.Nodup
  ln : ∀ c ∈ C, LS s c = true
  down : cellS s (p : Int) 1 = hdL C
  rank : getS s (p : Int) 4 = (C.length : Int)
  size : sz p = 1 + (C.map sz).sum
  fib : gF C.length ≤ sz p
  sub : ∀ c ∈ C, c ∈ H ∧ cellS s (c : Int) 0 = (p : Int) ∧ ht c < ht p ∧ befF (hasS s) (itF (hasS s) c) (itF (hasS s) p) = false
structure Shp (s : St) (L : List (Nat × Int × Int)) (H : List Nat) (sz ht : Nat → Nat) : Prop where
  ok : Ok s
  held : ∀ n ∈ H, ∃ a x, Held s L (itF (hasS s) n) a x
  it : ∀ n ∈ H, cellS s (n : Int) 6 = (itF (hasS s) n : Int) ∧ cellS s (itF (hasS s) n : Int) 9 = (n : Int) ∧ LS s (itF (hasS s) n) = true
  mark : ∀ n ∈ H, getS s (n : Int) 5 = 0 ∨ getS s (n : Int) 5 = 1
  ch : ∀ p ∈ H, ∃ C, Kid s H sz ht p C
  le : ∀ n ∈ H, 1 ≤ sz n ∧ sz n ≤ L.length
theorem shp_of {s : St} {t : Fq} {L : List (Nat × Int × Int)} (h : Hh s t L) (ok : Ok s) : ∃ sz ht, Shp s L t.H sz ht ∧ (t.T.map sz).sum = L.length ∧ Ring (hasS s) t.T ∧ t.T.Nodup ∧ t.T.length ≤ L.length ∧ ∀ c ∈ t.T, c ∈ t.H ∧ LS s c = true ∧ cellS s (c : Int) 0 = -1 := by
  have fh := h.hq.gh.fh
  obtain ⟨sz, ht, hh, h1, h2, h3⟩ := fh_sizes fh h.hq.gh.fb
  have hl := h.len
  refine ⟨sz, ht, ⟨ok, fun n hn => held_node h hn, fun n hn => ?_, fun n hn => ?_, fun p hp => ?_, fun n hn => by rw [← hl]; exact h2 n hn⟩, h3.trans hl, fh.top.rg, fh.top.nd, by rw [← hl]; exact nodup_sub_len fh.top.nd fun c hc => ((fh.top.mem c).1 hc).1, fun c hc => ?_⟩
  · obtain ⟨a, b, c⟩ := fh.it n hn
    exact ⟨cell_nat (j := 6) ok (fh.ln n hn) (by decide) a b, cell_nat (j := 9) ok b (by decide) c (fh.ln n hn), b⟩
  · have e : getS s (n : Int) 5 = hasS s n 5 := get_nat (j := 5) (fh.ln n hn) (by decide)
    rw [e]; exact fh.mrk n hn
  · obtain ⟨C, k, d, r⟩ := fh.ch p hp
    have sub : ∀ c ∈ C, c ∈ t.H ∧ hasS s c 0 = (p : Int) := fun c hc => (k.mem c).1 hc
    refine ⟨C, k.rg, k.nd, fun c hc => fh.ln c (sub c hc).1, ?_, (get_nat (j := 4) (fh.ln p hp) (by decide)).trans r, (h1 p hp C k).1, (h1 p hp C k).2, fun c hc => ⟨(sub c hc).1, cell_nat (j := 0) ok (fh.ln c (sub c hc).1) (by decide) (sub c hc).2 (fh.ln p hp), hh c (sub c hc).1 p (sub c hc).2, h.hq.gh.od c (sub c hc).1 p (sub c hc).2⟩⟩
    cases C with
    | nil => exact cell_neg (j := 1) (fh.ln p hp) (by decide) d
    | cons a x => exact cell_nat (j := 1) ok (fh.ln p hp) (by decide) d (fh.ln a (sub a (by simp)).1)
  · have := (fh.top.mem c).1 hc
    exact ⟨this.1, fh.ln c this.1, cell_neg (j := 0) (fh.ln c this.1) (by decide) this.2⟩
end Go.Proofs.YtckoglddhkbgkabGreat
