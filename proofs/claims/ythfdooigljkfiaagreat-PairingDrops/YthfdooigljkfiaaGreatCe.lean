/- The laws' cells: of what is held, rising. -/
import Derived.Test.YthfdooigljkfiaaGreatAl
import Derived.Test.YthfdooigljkfiaaGreatGc
import Derived.Test.YthfdooigljkfiaaGreatRg
namespace Go.Proofs.YthfdooigljkfiaaGreat
open Go.ChangeShapes Go.WideShapes Go.ChangeAt Go.RowKit

theorem ins_sorted {m : List Nat} {c k : Nat} (hk : k ≤ m.length) (hs : m.Pairwise (fun a b => a ≤ b)) (hg : ∀ j x, k ≤ j → m[j]? = some x → c < x) (hl : k = 0 ∨ ∃ x, m[k - 1]? = some x ∧ x ≤ c) : (m.take k ++ c :: m.drop k).Pairwise (fun a b => a ≤ b) := by
  have e := List.take_append_drop k m
  have hs' := hs
  rw [← e, List.pairwise_append] at hs'
  obtain ⟨h1, h2, h3⟩ := hs'
  have hd : ∀ y ∈ m.drop k, c < y := fun y hy => by
    obtain ⟨j, hj⟩ := List.mem_iff_getElem?.1 hy
    rw [List.getElem?_drop] at hj
    exact hg (k + j) y (by omega) hj
  have ht : ∀ y ∈ m.take k, y ≤ c := fun y hy => by
    obtain ⟨j, hj⟩ := List.mem_iff_getElem?.1 hy
    have hjk : j < k := by have := (List.getElem?_eq_some_iff.1 hj).1; simp at this; omega
    rw [List.getElem?_take_of_lt hjk] at hj
    rcases hl with rfl | ⟨x, hx, hxc⟩
    · omega
    · by_cases e : j = k - 1
      · subst e; rw [hx] at hj; injection hj with hj; omega
      · have hjl := (List.getElem?_eq_some_iff.1 hj)
        have hxl := (List.getElem?_eq_some_iff.1 hx)
        have := (List.pairwise_iff_getElem.1 hs) j (k - 1) hjl.1 hxl.1 (by omega)
        rw [hjl.2, hxl.2] at this
        omega
  rw [List.pairwise_append]
  refine ⟨h1, List.pairwise_cons.2 ⟨fun y hy => Nat.le_of_lt (hd y hy), h2⟩, fun a ha b hb => ?_⟩
  rw [List.mem_cons] at hb
  rcases hb with rfl | hb
  · exact ht a ha
  · exact h3 a ha b hb
theorem ins_perm (m : List Nat) (c k : Nat) : (m.take k ++ c :: m.drop k).Perm (c :: m) := by
  refine List.perm_middle.trans ?_
  rw [List.take_append_drop]
theorem sort_uniq : ∀ {l m : List Nat}, l.Perm m → l.Pairwise (fun a b => a ≤ b) → m.Pairwise (fun a b => a ≤ b) → l = m := fun h h1 h2 => h.eq_of_pairwise (fun _ _ _ _ p q => Nat.le_antisymm p q) h1 h2

theorem own1_cell {w : World} {base n : Nat} {a : Option Addr} {cap : Nat} {m : List Nat} (h : w.ownsRow base 3 1 (.slice a n cap) n (row nat1 m)) (hn : n = m.length) {j x : Nat} (hx : m[j]? = some x) {g : Nat} (ha : a = some ⟨g, 0, none⟩ := by rfl) : w.cell? ⟨g, j, none⟩ = some (.int .i64 (x : Int)) := by
  subst hn ha
  obtain ⟨g', cap', e, _, _, hc⟩ := own1_at h nat1_len hx
  cases e
  exact hc
theorem own1_some {w : World} {base n : Nat} {a : Option Addr} {cap : Nat} {xs : List Value} (h : w.ownsRow base 3 1 (.slice a n cap) n xs) (hn : 0 < n) : ∃ g, a = some ⟨g, 0, none⟩ := by
  obtain ⟨g, c, e, _⟩ := h.form hn
  cases e
  exact ⟨g, rfl⟩
theorem lit0' (w : World) {base : Nat} (n : Nat) (hn : n = w.heap.size) (hb : base ≤ n) : (w.alloc (.cells #[] 3)).ownsRow base 3 1 (.slice (some ⟨n, 0, none⟩) 0 0) 0 [] := by
  subst hn
  exact World.ownsRow_lit (base := base) (e := 3) (size := 1) w #[] 0 hb (by simp [maxLen]) rfl
theorem lit0 (w : World) {base : Nat} (hb : base ≤ w.heap.size) : (w.alloc (.cells #[] 3)).ownsRow base 3 1 (.slice (some ⟨w.heap.size, 0, none⟩) 0 0) 0 [] := lit0' w _ rfl hb
theorem Src.oneN (w : World) (n : Nat) (hn : n = w.heap.size) (c : Nat) : Src (n + 1) (w.alloc (.cells #[.int .i64 (c : Int)] 3)) (.slice (some ⟨n, 0, none⟩) 1 1) [c] := by
  subst hn
  exact Src.one w c
theorem Src.up {B B' : Nat} {w : World} {v : Value} {l : List Nat} (h : Src B w v l) (hb : B ≤ B') : Src B' w v l := by
  rcases h with h | ⟨b, off, c, e, h1, h2⟩
  · exact Or.inl h
  · exact Or.inr ⟨b, off, c, e, by omega, h2⟩
theorem Src.grown {B g n cap : Nat} {w w' : World} {l : List Nat} {r : Option Nat} (h : Src B w (.slice (some ⟨g, 0, none⟩) n cap) l) (hg : w.grownBy w' r) (hB : g < w.heap.size) (hr : r ≠ some g) : Src B w' (.slice (some ⟨g, 0, none⟩) n cap) l := by
  rcases h with ⟨h, _⟩ | ⟨b, off, c, e, h1, h2⟩
  · cases h
  · cases e
    exact Or.inr ⟨g, 0, cap, rfl, h1, fun i x hx => (World.cell?_of_block (w := w) (hg.block g hB fun e => hr e.symm)).trans (h2 i x hx)⟩

set_option maxHeartbeats 4000000 in
set_option maxRecDepth 100000 in
theorem cellsH {P : Nat → Prop} (v : Value) (L : List (Nat × Int × Int)) (w : World) (h : Lz P w v L) (hl : L.length ≤ 1000) :
    Calls Tryz.prog 32 #[v] w fun e w' => ∃ v' m, e = .returned v' ∧ w'.ownsRow w.heap.size 3 1 v' m.length (row nat1 m) ∧ m.Perm (L.map fun x => x.1) ∧ m.Pairwise (fun a b => a ≤ b) ∧ Kept (fun _ => False) w w' := by
  have HH := hid h
  obtain ⟨va, vc, rfl⟩ := h.form
  clear h
  go_enter Tryz.func32, Tryz.ntmps32
  go_wp2
  go_loopw [3, 4, 5] (fun ov iv _ wr => ∃ (i : Nat) (m : List Nat), iv = .int .i64 i ∧ i ≤ L.length ∧ wr.ownsRow w.heap.size 3 1 ov m.length (row nat1 m) ∧ m.Perm ((L.take i).map fun x => x.1) ∧ m.Pairwise (fun a b => a ≤ b) ∧ Kept (fun _ => False) w wr) (fun _ i _ _ => L.length - (intOf i).toNat)
  case atStart => exact ⟨0, [], rfl, Nat.zero_le _, World.ownsRow_nil _ _ _ _, .nil, .nil, Kept.refl _ _⟩
  case round =>
    obtain ⟨i, m, rfl, hi, ho, hp, hs, kr⟩ := hrel
    obtain ⟨oa, oc, rfl⟩ := own_form ho
    have HO := hid ho
    have HP := hid hp
    have HS := hid hs
    have KR := hid kr
    have hm : m.length = i := by rw [hp.length_eq]; simp; omega
    by_cases hlt : i < L.length
    · have hx : L[i]? = some (L[i]'hlt) := List.getElem?_eq_getElem hlt
      have HR : Hid (Lz P wr (.slice va L.length vc) L) := HH.out.kept kr (fun _ _ e => e)
      obtain ⟨b, cap, e, hc, hb, hPb, x1, _, _⟩ := HR.out.at hx
      obtain rfl : va = some ⟨b, 0, none⟩ := by injection e
      have HB := hid (show b < w.heap.size by rcases HH.out with ⟨e, _⟩ | ⟨b2, _, e, _, _, q, _⟩; · cases e
                                              · cases e; exact q)
      have ET := hid (show (L.take (i + 1)).map (fun x => x.1) = (L.take i).map (fun x => x.1) ++ [(L[i]'hlt).1] by rw [List.take_add_one, List.map_append, hx]; rfl)
      generalize (L[i]'hlt).1 = c at x1 ET
      have hlt' : (i : Int) < (L.length : Int) := by omega
      have hml : m.length ≤ 1000 := by omega
      have HM := hid hm
      obtain ⟨n, hn⟩ : ∃ n, n = m.length := ⟨_, rfl⟩
      have HN := hid hn
      rw [← hn] at hml HO ⊢
      clear e hx ho hp hs kr hPb hc hm hn
      go_wp2_with fail
      obtain ⟨w1, rfl⟩ : ∃ w1, w1 = wr := ⟨wr, rfl⟩
      go_loopw [5] (fun kv wq => ∃ (k d : Nat), kv = .int .i64 k ∧ k ≤ n ∧ (∀ j x, k ≤ j → m[j]? = some x → c < x) ∧ wq = w1.drewN d) (fun k _ => (intOf k).toNat)
      case atStart => exact ⟨n, 0, rfl, Nat.le_refl _, fun j x hj hx => by have := (List.getElem?_eq_some_iff.1 hx).1; have := HN.out; omega, rfl⟩
      case round =>
        obtain ⟨k, d, rfl, hk, hg, rfl⟩ := hrel
        have HG := hid hg
        clear hg
        by_cases hk0 : k = 0
        · subst hk0
          have g0 : decide ((0 : Int) > 0) = false := by decide
          go_wp2_with fail
          go_quiet (fail)
          have ho2 := own_plain HO.out (((Kept.refl (fun _ => False) w1).drewN d).drewN nq)
          have k2 := KR.out.trans' (((Kept.refl (fun _ => False) w1).drewN d).drewN nq)
          have x2 : ((w1.drewN d).drewN nq).cell? ⟨b, i * 3, none⟩ = some (.int .i64 (c : Int)) := x1
          generalize (w1.drewN d).drewN nq = w2 at *
          clear x1 HO KR
          have KR := hid k2
          have HO := hid ho2
          have hbw : b < w2.heap.size := Nat.lt_of_lt_of_le HB.out k2.size
          have SR := hid (ins_sorted (c := c) (k := 0) (by have := HN.out; omega) HS.out HG.out (Or.inl rfl))
          rcases HO.out.2 with ⟨e, hn0⟩ | ⟨g, gc, cur, e, _, hgb, hgc, hgm, _, _⟩
          · obtain rfl : oa = none := by injection e
            subst hn0
            obtain rfl : oc = 0 := by injection e
            have hm0 : m = [] := List.eq_nil_of_length_eq_zero HN.out.symm
            subst hm0
            have S1 : Hid (Src w2.heap.size w2 (.slice none 0 0) (([] : List Nat).take 0)) := Or.inl ⟨rfl, rfl⟩
            have S2 : Hid (Src w2.heap.size w2 (.slice none 0 0) (([] : List Nat).drop 0)) := Or.inl ⟨rfl, rfl⟩
            have E1 := hid (show (([] : List Nat).take 0).length = 0 by have := HN.out; rw [List.length_take]; omega)
            have E2 := hid (show (([] : List Nat).drop 0).length ≤ 1000 by have := HN.out; rw [List.length_drop]; omega)
            have SZ := hid k2.size
            have HX2 := hid x2
            clear k2 ho2
            go_wp2_with fail
            refine wp_region_noPanic ?_
            refine wp_region_held_drew (S := (fun w' => w'.cell? ⟨b, i * 3, none⟩ = some (.int .i64 (c : Int)))) (by kernel_rfl) x2 (fun hHeld => ?_)
            have KD := hid ((Kept.refl (fun _ => False) w2).drew)
            replace S1 := hid (S1.out.kept KD.out.plain0)
            replace S2 := hid (S2.out.kept KD.out.plain0)
            replace KR := hid (KR.out.trans' KD.out)
            have hbW : b < w2.drew.heap.size := hbw
            replace SZ := hid (Nat.le_trans SZ.out KD.out.size)
            replace HX2 : Hid (w2.drew.cell? ⟨b, i * 3, none⟩ = some (.int .i64 (c : Int))) := HX2.out
            have eB : w2.heap.size = w2.drew.heap.size := rfl
            rw [eB] at S1 S2
            clear eB KD x2 HO
            generalize w2.drew = W at *
            refine ord_take 1 32 (.slice none 0 0) rfl rfl (by kernel_rfl) (by kernel_rfl) (by kernel_rfl) (fun _ _ _ h => h) (by rfl) (fun wS hS => by (try dsimp only at hS); go_split_ands; go_simp) (by assumption) ?_
            simp only [Act.put, List.setIfInBounds_toArray, List.set_cons_zero, List.set_cons_succ]
            refine ord_take 2 33 (.int .i64 ((0 : Nat) : Int)) rfl rfl (by kernel_rfl) (by kernel_rfl) (by kernel_rfl) (fun _ _ _ h => h) (by rfl) (fun wS hS => by (try dsimp only at hS); go_split_ands; go_simp) (by assumption) ?_
            simp only [Act.put, List.setIfInBounds_toArray, List.set_cons_zero, List.set_cons_succ]
            refine ord_take 3 34 (.slice none 0 0) rfl rfl (by kernel_rfl) (by kernel_rfl) (by kernel_rfl) (fun _ _ _ h => h) (by rfl) (fun wS hS => by (try dsimp only at hS); go_split_ands; go_simp) (by assumption) ?_
            simp only [Act.put, List.setIfInBounds_toArray, List.set_cons_zero, List.set_cons_succ]
            refine ord_take 5 36 (.slice (some ⟨b, 0, none⟩) L.length vc) rfl rfl (by kernel_rfl) (by kernel_rfl) (by kernel_rfl) (fun _ _ _ h => h) (by rfl) (fun wS hS => by (try dsimp only at hS); go_split_ands; go_simp) (by assumption) ?_
            simp only [Act.put, List.setIfInBounds_toArray, List.set_cons_zero, List.set_cons_succ]
            refine ord_take 6 37 (.int .i64 (i : Int)) rfl rfl (by kernel_rfl) (by kernel_rfl) (by kernel_rfl) (fun _ _ _ h => h) (by rfl) (fun wS hS => by (try dsimp only at hS); go_split_ands; go_simp) (by assumption) ?_
            simp only [Act.put, List.setIfInBounds_toArray, List.set_cons_zero, List.set_cons_succ]
            refine ord_take 7 38 (.pointer (some ⟨b, i * 3, none⟩)) rfl rfl (by kernel_rfl) (by kernel_rfl) (by kernel_rfl) (fun _ _ _ h => h) (by rfl) (fun wS hS => by (try dsimp only at hS); go_split_ands; go_simp) (by assumption) ?_
            simp only [Act.put, List.setIfInBounds_toArray, List.set_cons_zero, List.set_cons_succ]
            refine ord_take 8 39 (.pointer (some ⟨b, i * 3, none⟩)) rfl rfl (by kernel_rfl) (by kernel_rfl) (by kernel_rfl) (fun _ _ _ h => h) (by rfl) (fun wS hS => by (try dsimp only at hS); go_split_ands; go_simp) (by assumption) ?_
            simp only [Act.put, List.setIfInBounds_toArray, List.set_cons_zero, List.set_cons_succ]
            refine ord_take 9 40 (.int .i64 (c : Int)) rfl rfl (by kernel_rfl) (by kernel_rfl) (by kernel_rfl) (fun _ _ _ h => h) (by rfl) (fun wS hS => by (try dsimp only at hS); go_split_ands; go_simp) (by assumption) ?_
            simp only [Act.put, List.setIfInBounds_toArray, List.set_cons_zero, List.set_cons_succ]
            refine ord_take 12 43 (.slice none 0 0) rfl rfl (by kernel_rfl) (by kernel_rfl) (by kernel_rfl) (fun _ _ _ h => h) (by rfl) (fun wS hS => by (try dsimp only at hS); go_split_ands; go_simp) (by assumption) ?_
            simp only [Act.put, List.setIfInBounds_toArray, List.set_cons_zero, List.set_cons_succ]
            refine ord_take 13 44 (.int .i64 ((0 : Nat) : Int)) rfl rfl (by kernel_rfl) (by kernel_rfl) (by kernel_rfl) (fun _ _ _ h => h) (by rfl) (fun wS hS => by (try dsimp only at hS); go_split_ands; go_simp) (by assumption) ?_
            simp only [Act.put, List.setIfInBounds_toArray, List.set_cons_zero, List.set_cons_succ]
            refine ord_take 14 45 (.slice none 0 0) rfl rfl (by kernel_rfl) (by kernel_rfl) (by kernel_rfl) (fun _ _ _ h => h) (by rfl) (fun wS hS => by (try dsimp only at hS); go_split_ands; go_simp) (by assumption) ?_
            simp only [Act.put, List.setIfInBounds_toArray, List.set_cons_zero, List.set_cons_succ]
            clear hHeld
            refine wpAnyH_ready (rs := [0, 10]) (by kernel_rfl) (by simp) ?_
            refine AllReadyH.cons rfl (fun K hK => ?_) (AllReadyH.cons rfl (fun K hK => ?_) AllReadyH.nil)
            · go_simp
              go_wp2_with fail
              refine hK.out _ _ ((((Kept.refl (fun _ => False) W).alloc _).cell (p := ⟨b, i * 3, none⟩) hbW (fun e => e)).trans HX2.out) (fun hHeld => ?_)
              clear hK K
              refine wpAnyH_ready (rs := [4, 10]) (by kernel_rfl) (by simp) ?_
              refine AllReadyH.cons rfl (fun K hK => ?_) (AllReadyH.cons rfl (fun K hK => ?_) AllReadyH.nil)
              · refine step_append_src rfl (.tmp 31) (.tmp 34) rfl W.heap.size W.heap.size _ _ 0 [] (([] : List Nat).take 0) rfl rfl (by exact lit0 W (Nat.le_refl _)) (by exact S1.out.kept ((Kept.refl (fun _ => False) W).alloc _).plain0) (by have := E1.out; omega) (by simp <;> omega) ?_
                intro v3 w3 o3 g3
                have K3 := hid (((Kept.refl (fun _ => False) W).alloc _).grown g3 (fun k hk => Or.inr (by cases hk; simp <;> omega)))
                have O3 := hid o3
                clear o3 g3
                go_wp2_with fail
                refine hK.out _ _ ((K3.out.cell (p := ⟨b, i * 3, none⟩) hbW (fun e => e)).trans HX2.out) (fun hHeld => ?_)
                clear hK K
                refine wpAnyH_ready (rs := [10]) (by kernel_rfl) (by simp) ?_
                refine AllReadyH.cons rfl (fun K hK => ?_) AllReadyH.nil
                go_simp
                go_wp2_with fail
                refine hK.out _ _ (((K3.out.alloc _).cell (p := ⟨b, i * 3, none⟩) hbW (fun e => e)).trans HX2.out) (fun hHeld => ?_)
                clear hK K
                refine wpAnyH_ready (rs := [11]) (by kernel_rfl) (by simp) ?_
                refine AllReadyH.cons rfl (fun K hK => ?_) AllReadyH.nil
                refine step_append_src rfl (.tmp 35) (.tmp 41) rfl W.heap.size _ v3 _ (0 + (([] : List Nat).take 0).length) ([] ++ row nat1 (([] : List Nat).take 0)) [c] rfl rfl (by exact World.ownsRow.alloc O3.out _) (by exact Src.one _ _) (by have := E1.out; show 0 + (([] : List Nat).take 0).length + 1 ≤ 1000000; omega) (by exact (K3.out.alloc _).size) ?_
                intro v4 w4 o4 g4
                have K4 := hid ((K3.out.alloc _).grown g4 (fun k hk => Or.inr (O3.out.lt k hk).1))
                have O4 := hid o4
                clear o4 g4
                go_wp2_with fail
                refine hK.out _ _ ((K4.out.cell (p := ⟨b, i * 3, none⟩) hbW (fun e => e)).trans HX2.out) (fun hHeld => ?_)
                clear hK K
                refine wpAnyH_ready (rs := [15]) (by kernel_rfl) (by simp) ?_
                refine AllReadyH.cons rfl (fun K hK => ?_) AllReadyH.nil
                refine step_append_src rfl (.tmp 42) (.tmp 45) rfl W.heap.size W.heap.size v4 _ (0 + (([] : List Nat).take 0).length + [c].length) ([] ++ row nat1 (([] : List Nat).take 0) ++ row nat1 [c]) (([] : List Nat).drop 0) rfl rfl (by exact O4.out) (by exact S2.out.kept K4.out.plain0) (by have := E1.out; have := E2.out; show 0 + (([] : List Nat).take 0).length + 1 + (([] : List Nat).drop 0).length ≤ 1000000; omega) (by exact K4.out.size) ?_
                intro v5 w5 o5 g5
                have K5 := hid (K4.out.grown g5 (fun k hk => Or.inr (O4.out.lt k hk).1))
                have O5 := hid o5
                obtain ⟨va5, vc5, rfl⟩ := own_form o5
                clear o5 g5
                go_wp2_with fail
                refine hK.out _ _ ((K5.out.cell (p := ⟨b, i * 3, none⟩) hbW (fun e => e)).trans HX2.out) (fun hHeld => ?_)
                clear hK K
                have OF := hid (own_base O5.out SZ.out)
                have KF := hid (KR.out.trans' K5.out)
                have EL := hid (show (([] : List Nat).take 0 ++ c :: ([] : List Nat).drop 0).length = 0 + (([] : List Nat).take 0).length + [c].length + (([] : List Nat).drop 0).length by simp <;> omega)
                have ER := hid (show row nat1 (([] : List Nat).take 0 ++ c :: ([] : List Nat).drop 0) = [] ++ row nat1 (([] : List Nat).take 0) ++ row nat1 [c] ++ row nat1 (([] : List Nat).drop 0) by rw [row_append]; simp [row])
                generalize 0 + (([] : List Nat).take 0).length + [c].length + (([] : List Nat).drop 0).length = n5 at *
                refine ord_take 16 3 (.slice va5 n5 vc5) rfl rfl (by kernel_rfl) (by kernel_rfl) (by kernel_rfl) (fun _ _ _ h => h) (by rfl) (fun wS hS => by (try dsimp only at hS); go_split_ands; go_simp) (by assumption) ?_
                simp only [Act.put, List.setIfInBounds_toArray]
                refine wpAnyH_done (by kernel_rfl) ?_ _
                refine NoPanic.normal ?_
                clear O5 O4 O3 K5 K4 K3 HX2
                go_wp2
                go_roundw
                case rel => exact ⟨i + 1, ([] : List Nat).take 0 ++ c :: ([] : List Nat).drop 0, by go_num, by omega, by rw [EL.out, ER.out]; exact OF.out, (ins_perm [] c 0).trans (by rw [ET.out]; exact (HP.out.cons c).trans (by simpa using (List.perm_append_comm (l₁ := [c]) (l₂ := (L.take i).map fun x => x.1)))), SR.out, KF.out⟩
                case measure => simp [intOf]; omega
              · go_simp
                go_wp2_with fail
                refine hK.out _ _ (((((Kept.refl (fun _ => False) W).alloc _).alloc _).cell (p := ⟨b, i * 3, none⟩) hbW (fun e => e)).trans HX2.out) (fun hHeld => ?_)
                clear hK K
                refine wpAnyH_ready (rs := [4]) (by kernel_rfl) (by simp) ?_
                refine AllReadyH.cons rfl (fun K hK => ?_) AllReadyH.nil
                refine step_append_src rfl (.tmp 31) (.tmp 34) rfl W.heap.size W.heap.size _ _ 0 [] (([] : List Nat).take 0) rfl rfl (by exact World.ownsRow.alloc (lit0 W (Nat.le_refl _)) _) (by exact S1.out.kept (((Kept.refl (fun _ => False) W).alloc _).alloc _).plain0) (by have := E1.out; omega) (by simp <;> omega) ?_
                intro v3 w3 o3 g3
                have K3 := hid ((((Kept.refl (fun _ => False) W).alloc _).alloc _).grown g3 (fun k hk => Or.inr (by cases hk; simp <;> omega)))
                have XX := hid ((Src.oneN (W.alloc (.cells #[] 3)) (W.heap.size + 1) (by simp) c).grown g3 (by simp) (by intro hk; have := Option.some.inj hk; simp at this))
                have O3 := hid o3
                clear o3 g3
                go_wp2_with fail
                refine hK.out _ _ ((K3.out.cell (p := ⟨b, i * 3, none⟩) hbW (fun e => e)).trans HX2.out) (fun hHeld => ?_)
                clear hK K
                refine wpAnyH_ready (rs := [11]) (by kernel_rfl) (by simp) ?_
                refine AllReadyH.cons rfl (fun K hK => ?_) AllReadyH.nil
                refine step_append_src rfl (.tmp 35) (.tmp 41) rfl W.heap.size _ v3 _ (0 + (([] : List Nat).take 0).length) ([] ++ row nat1 (([] : List Nat).take 0)) [c] rfl rfl (by exact O3.out) (by exact XX.out) (by have := E1.out; show 0 + (([] : List Nat).take 0).length + 1 ≤ 1000000; omega) (by exact K3.out.size) ?_
                intro v4 w4 o4 g4
                have K4 := hid (K3.out.grown g4 (fun k hk => Or.inr (O3.out.lt k hk).1))
                have O4 := hid o4
                clear o4 g4
                go_wp2_with fail
                refine hK.out _ _ ((K4.out.cell (p := ⟨b, i * 3, none⟩) hbW (fun e => e)).trans HX2.out) (fun hHeld => ?_)
                clear hK K
                refine wpAnyH_ready (rs := [15]) (by kernel_rfl) (by simp) ?_
                refine AllReadyH.cons rfl (fun K hK => ?_) AllReadyH.nil
                refine step_append_src rfl (.tmp 42) (.tmp 45) rfl W.heap.size W.heap.size v4 _ (0 + (([] : List Nat).take 0).length + [c].length) ([] ++ row nat1 (([] : List Nat).take 0) ++ row nat1 [c]) (([] : List Nat).drop 0) rfl rfl (by exact O4.out) (by exact S2.out.kept K4.out.plain0) (by have := E1.out; have := E2.out; show 0 + (([] : List Nat).take 0).length + 1 + (([] : List Nat).drop 0).length ≤ 1000000; omega) (by exact K4.out.size) ?_
                intro v5 w5 o5 g5
                have K5 := hid (K4.out.grown g5 (fun k hk => Or.inr (O4.out.lt k hk).1))
                have O5 := hid o5
                obtain ⟨va5, vc5, rfl⟩ := own_form o5
                clear o5 g5
                go_wp2_with fail
                refine hK.out _ _ ((K5.out.cell (p := ⟨b, i * 3, none⟩) hbW (fun e => e)).trans HX2.out) (fun hHeld => ?_)
                clear hK K
                have OF := hid (own_base O5.out SZ.out)
                have KF := hid (KR.out.trans' K5.out)
                have EL := hid (show (([] : List Nat).take 0 ++ c :: ([] : List Nat).drop 0).length = 0 + (([] : List Nat).take 0).length + [c].length + (([] : List Nat).drop 0).length by simp <;> omega)
                have ER := hid (show row nat1 (([] : List Nat).take 0 ++ c :: ([] : List Nat).drop 0) = [] ++ row nat1 (([] : List Nat).take 0) ++ row nat1 [c] ++ row nat1 (([] : List Nat).drop 0) by rw [row_append]; simp [row])
                generalize 0 + (([] : List Nat).take 0).length + [c].length + (([] : List Nat).drop 0).length = n5 at *
                refine ord_take 16 3 (.slice va5 n5 vc5) rfl rfl (by kernel_rfl) (by kernel_rfl) (by kernel_rfl) (fun _ _ _ h => h) (by rfl) (fun wS hS => by (try dsimp only at hS); go_split_ands; go_simp) (by assumption) ?_
                simp only [Act.put, List.setIfInBounds_toArray]
                refine wpAnyH_done (by kernel_rfl) ?_ _
                refine NoPanic.normal ?_
                clear O5 O4 O3 K5 K4 K3 HX2
                go_wp2
                go_roundw
                case rel => exact ⟨i + 1, ([] : List Nat).take 0 ++ c :: ([] : List Nat).drop 0, by go_num, by omega, by rw [EL.out, ER.out]; exact OF.out, (ins_perm [] c 0).trans (by rw [ET.out]; exact (HP.out.cons c).trans (by simpa using (List.perm_append_comm (l₁ := [c]) (l₂ := (L.take i).map fun x => x.1)))), SR.out, KF.out⟩
                case measure => simp [intOf]; omega
            · go_simp
              go_wp2_with fail
              refine hK.out _ _ ((((Kept.refl (fun _ => False) W).alloc _).cell (p := ⟨b, i * 3, none⟩) hbW (fun e => e)).trans HX2.out) (fun hHeld => ?_)
              clear hK K
              refine wpAnyH_ready (rs := [0]) (by kernel_rfl) (by simp) ?_
              refine AllReadyH.cons rfl (fun K hK => ?_) AllReadyH.nil
              go_simp
              go_wp2_with fail
              refine hK.out _ _ (((((Kept.refl (fun _ => False) W).alloc _).alloc _).cell (p := ⟨b, i * 3, none⟩) hbW (fun e => e)).trans HX2.out) (fun hHeld => ?_)
              clear hK K
              refine wpAnyH_ready (rs := [4]) (by kernel_rfl) (by simp) ?_
              refine AllReadyH.cons rfl (fun K hK => ?_) AllReadyH.nil
              refine step_append_src rfl (.tmp 31) (.tmp 34) rfl W.heap.size W.heap.size _ _ 0 [] (([] : List Nat).take 0) rfl rfl (by exact lit0' (W.alloc _) (W.heap.size + 1) (by simp) (by omega)) (by exact S1.out.kept (((Kept.refl (fun _ => False) W).alloc _).alloc _).plain0) (by have := E1.out; omega) (by simp <;> omega) ?_
              intro v3 w3 o3 g3
              have K3 := hid ((((Kept.refl (fun _ => False) W).alloc _).alloc _).grown g3 (fun k hk => Or.inr (by cases hk; simp <;> omega)))
              have XX := hid (((Src.one W c).kept (((Kept.refl (fun _ => False) (W.alloc _)).alloc _).below (by simp) (fun _ e => e.elim))).grown g3 (by simp <;> omega) (by intro hk; have := Option.some.inj hk; simp at this))
              have O3 := hid o3
              clear o3 g3
              go_wp2_with fail
              refine hK.out _ _ ((K3.out.cell (p := ⟨b, i * 3, none⟩) hbW (fun e => e)).trans HX2.out) (fun hHeld => ?_)
              clear hK K
              refine wpAnyH_ready (rs := [11]) (by kernel_rfl) (by simp) ?_
              refine AllReadyH.cons rfl (fun K hK => ?_) AllReadyH.nil
              refine step_append_src rfl (.tmp 35) (.tmp 41) rfl W.heap.size _ v3 _ (0 + (([] : List Nat).take 0).length) ([] ++ row nat1 (([] : List Nat).take 0)) [c] rfl rfl (by exact O3.out) (by exact XX.out) (by have := E1.out; show 0 + (([] : List Nat).take 0).length + 1 ≤ 1000000; omega) (by exact K3.out.size) ?_
              intro v4 w4 o4 g4
              have K4 := hid (K3.out.grown g4 (fun k hk => Or.inr (O3.out.lt k hk).1))
              have O4 := hid o4
              clear o4 g4
              go_wp2_with fail
              refine hK.out _ _ ((K4.out.cell (p := ⟨b, i * 3, none⟩) hbW (fun e => e)).trans HX2.out) (fun hHeld => ?_)
              clear hK K
              refine wpAnyH_ready (rs := [15]) (by kernel_rfl) (by simp) ?_
              refine AllReadyH.cons rfl (fun K hK => ?_) AllReadyH.nil
              refine step_append_src rfl (.tmp 42) (.tmp 45) rfl W.heap.size W.heap.size v4 _ (0 + (([] : List Nat).take 0).length + [c].length) ([] ++ row nat1 (([] : List Nat).take 0) ++ row nat1 [c]) (([] : List Nat).drop 0) rfl rfl (by exact O4.out) (by exact S2.out.kept K4.out.plain0) (by have := E1.out; have := E2.out; show 0 + (([] : List Nat).take 0).length + 1 + (([] : List Nat).drop 0).length ≤ 1000000; omega) (by exact K4.out.size) ?_
              intro v5 w5 o5 g5
              have K5 := hid (K4.out.grown g5 (fun k hk => Or.inr (O4.out.lt k hk).1))
              have O5 := hid o5
              obtain ⟨va5, vc5, rfl⟩ := own_form o5
              clear o5 g5
              go_wp2_with fail
              refine hK.out _ _ ((K5.out.cell (p := ⟨b, i * 3, none⟩) hbW (fun e => e)).trans HX2.out) (fun hHeld => ?_)
              clear hK K
              have OF := hid (own_base O5.out SZ.out)
              have KF := hid (KR.out.trans' K5.out)
              have EL := hid (show (([] : List Nat).take 0 ++ c :: ([] : List Nat).drop 0).length = 0 + (([] : List Nat).take 0).length + [c].length + (([] : List Nat).drop 0).length by simp <;> omega)
              have ER := hid (show row nat1 (([] : List Nat).take 0 ++ c :: ([] : List Nat).drop 0) = [] ++ row nat1 (([] : List Nat).take 0) ++ row nat1 [c] ++ row nat1 (([] : List Nat).drop 0) by rw [row_append]; simp [row])
              generalize 0 + (([] : List Nat).take 0).length + [c].length + (([] : List Nat).drop 0).length = n5 at *
              refine ord_take 16 3 (.slice va5 n5 vc5) rfl rfl (by kernel_rfl) (by kernel_rfl) (by kernel_rfl) (fun _ _ _ h => h) (by rfl) (fun wS hS => by (try dsimp only at hS); go_split_ands; go_simp) (by assumption) ?_
              simp only [Act.put, List.setIfInBounds_toArray]
              refine wpAnyH_done (by kernel_rfl) ?_ _
              refine NoPanic.normal ?_
              clear O5 O4 O3 K5 K4 K3 HX2
              go_wp2
              go_roundw
              case rel => exact ⟨i + 1, ([] : List Nat).take 0 ++ c :: ([] : List Nat).drop 0, by go_num, by omega, by rw [EL.out, ER.out]; exact OF.out, (ins_perm [] c 0).trans (by rw [ET.out]; exact (HP.out.cons c).trans (by simpa using (List.perm_append_comm (l₁ := [c]) (l₂ := (L.take i).map fun x => x.1)))), SR.out, KF.out⟩
              case measure => simp [intOf]; omega
          · obtain rfl : oa = some ⟨g, 0, none⟩ := by injection e
            obtain rfl : oc = gc := by injection e
            have hgw : g < w2.heap.size := lt_of_block hgb
            have HC := hid (fun (j x : Nat) (hx : m[j]? = some x) => (own1_cell HO.out HN.out hx : w2.cell? ⟨g, j, none⟩ = some (.int .i64 (x : Int))))
            have S1 : Hid (Src w2.heap.size w2 (.slice (some ⟨g, 0, none⟩) 0 oc) (m.take 0)) := Or.inr ⟨g, 0, oc, rfl, hgw, fun j x hx => by simp at hx⟩
            have b2 : (n : Int) ≤ (oc : Int) := by omega
            have b0 : (0 : Int) ≤ (n : Int) := by omega
            have b1 : (0 : Int) ≤ (oc : Int) := by omega
            unfold maxLen at hgm
            have S2 : Hid (Src w2.heap.size w2 (.slice (some ⟨g, 0, none⟩) n oc) (m.drop 0)) := Or.inr ⟨g, 0, oc, by rw [List.drop_zero, HN.out], hgw, fun j x hx => by
                rw [List.drop_zero] at hx
                rw [Nat.zero_add]
                exact HC.out j x hx⟩
            clear HC hgb e
            have E1 := hid (show (m.take 0).length = 0 by have := HN.out; rw [List.length_take]; omega)
            have E2 := hid (show (m.drop 0).length ≤ 1000 by have := HN.out; rw [List.length_drop]; omega)
            have SZ := hid k2.size
            have HX2 := hid x2
            clear k2 ho2
            go_wp2_with fail
            refine wp_region_noPanic ?_
            refine wp_region_held_drew (S := (fun w' => w'.cell? ⟨b, i * 3, none⟩ = some (.int .i64 (c : Int)))) (by kernel_rfl) x2 (fun hHeld => ?_)
            have KD := hid ((Kept.refl (fun _ => False) w2).drew)
            replace S1 := hid (S1.out.kept KD.out.plain0)
            replace S2 := hid (S2.out.kept KD.out.plain0)
            replace KR := hid (KR.out.trans' KD.out)
            have hbW : b < w2.drew.heap.size := hbw
            replace SZ := hid (Nat.le_trans SZ.out KD.out.size)
            replace HX2 : Hid (w2.drew.cell? ⟨b, i * 3, none⟩ = some (.int .i64 (c : Int))) := HX2.out
            have eB : w2.heap.size = w2.drew.heap.size := rfl
            rw [eB] at S1 S2
            clear eB KD x2 HO
            generalize w2.drew = W at *
            refine ord_take 1 32 (.slice (some ⟨g, 0, none⟩) n oc) rfl rfl (by kernel_rfl) (by kernel_rfl) (by kernel_rfl) (fun _ _ _ h => h) (by rfl) (fun wS hS => by (try dsimp only at hS); go_split_ands; go_simp) (by assumption) ?_
            simp only [Act.put, List.setIfInBounds_toArray, List.set_cons_zero, List.set_cons_succ]
            refine ord_take 2 33 (.int .i64 ((0 : Nat) : Int)) rfl rfl (by kernel_rfl) (by kernel_rfl) (by kernel_rfl) (fun _ _ _ h => h) (by rfl) (fun wS hS => by (try dsimp only at hS); go_split_ands; go_simp) (by assumption) ?_
            simp only [Act.put, List.setIfInBounds_toArray, List.set_cons_zero, List.set_cons_succ]
            refine ord_take 3 34 (.slice (some ⟨g, 0, none⟩) 0 oc) rfl rfl (by kernel_rfl) (by kernel_rfl) (by kernel_rfl) (fun _ _ _ h => h) (by rfl) (fun wS hS => by (try dsimp only at hS); go_split_ands; go_simp) (by assumption) ?_
            simp only [Act.put, List.setIfInBounds_toArray, List.set_cons_zero, List.set_cons_succ]
            refine ord_take 5 36 (.slice (some ⟨b, 0, none⟩) L.length vc) rfl rfl (by kernel_rfl) (by kernel_rfl) (by kernel_rfl) (fun _ _ _ h => h) (by rfl) (fun wS hS => by (try dsimp only at hS); go_split_ands; go_simp) (by assumption) ?_
            simp only [Act.put, List.setIfInBounds_toArray, List.set_cons_zero, List.set_cons_succ]
            refine ord_take 6 37 (.int .i64 (i : Int)) rfl rfl (by kernel_rfl) (by kernel_rfl) (by kernel_rfl) (fun _ _ _ h => h) (by rfl) (fun wS hS => by (try dsimp only at hS); go_split_ands; go_simp) (by assumption) ?_
            simp only [Act.put, List.setIfInBounds_toArray, List.set_cons_zero, List.set_cons_succ]
            refine ord_take 7 38 (.pointer (some ⟨b, i * 3, none⟩)) rfl rfl (by kernel_rfl) (by kernel_rfl) (by kernel_rfl) (fun _ _ _ h => h) (by rfl) (fun wS hS => by (try dsimp only at hS); go_split_ands; go_simp) (by assumption) ?_
            simp only [Act.put, List.setIfInBounds_toArray, List.set_cons_zero, List.set_cons_succ]
            refine ord_take 8 39 (.pointer (some ⟨b, i * 3, none⟩)) rfl rfl (by kernel_rfl) (by kernel_rfl) (by kernel_rfl) (fun _ _ _ h => h) (by rfl) (fun wS hS => by (try dsimp only at hS); go_split_ands; go_simp) (by assumption) ?_
            simp only [Act.put, List.setIfInBounds_toArray, List.set_cons_zero, List.set_cons_succ]
            refine ord_take 9 40 (.int .i64 (c : Int)) rfl rfl (by kernel_rfl) (by kernel_rfl) (by kernel_rfl) (fun _ _ _ h => h) (by rfl) (fun wS hS => by (try dsimp only at hS); go_split_ands; go_simp) (by assumption) ?_
            simp only [Act.put, List.setIfInBounds_toArray, List.set_cons_zero, List.set_cons_succ]
            refine ord_take 12 43 (.slice (some ⟨g, 0, none⟩) n oc) rfl rfl (by kernel_rfl) (by kernel_rfl) (by kernel_rfl) (fun _ _ _ h => h) (by rfl) (fun wS hS => by (try dsimp only at hS); go_split_ands; go_simp) (by assumption) ?_
            simp only [Act.put, List.setIfInBounds_toArray, List.set_cons_zero, List.set_cons_succ]
            refine ord_take 13 44 (.int .i64 ((0 : Nat) : Int)) rfl rfl (by kernel_rfl) (by kernel_rfl) (by kernel_rfl) (fun _ _ _ h => h) (by rfl) (fun wS hS => by (try dsimp only at hS); go_split_ands; go_simp) (by assumption) ?_
            simp only [Act.put, List.setIfInBounds_toArray, List.set_cons_zero, List.set_cons_succ]
            refine ord_take 14 45 (.slice (some ⟨g, 0, none⟩) n oc) rfl rfl (by kernel_rfl) (by kernel_rfl) (by kernel_rfl) (fun _ _ _ h => h) (by rfl) (fun wS hS => by (try dsimp only at hS); go_split_ands; go_simp) (by assumption) ?_
            simp only [Act.put, List.setIfInBounds_toArray, List.set_cons_zero, List.set_cons_succ]
            clear hHeld
            refine wpAnyH_ready (rs := [0, 10]) (by kernel_rfl) (by simp) ?_
            refine AllReadyH.cons rfl (fun K hK => ?_) (AllReadyH.cons rfl (fun K hK => ?_) AllReadyH.nil)
            · go_simp
              go_wp2_with fail
              refine hK.out _ _ ((((Kept.refl (fun _ => False) W).alloc _).cell (p := ⟨b, i * 3, none⟩) hbW (fun e => e)).trans HX2.out) (fun hHeld => ?_)
              clear hK K
              refine wpAnyH_ready (rs := [4, 10]) (by kernel_rfl) (by simp) ?_
              refine AllReadyH.cons rfl (fun K hK => ?_) (AllReadyH.cons rfl (fun K hK => ?_) AllReadyH.nil)
              · refine step_append_src rfl (.tmp 31) (.tmp 34) rfl W.heap.size W.heap.size _ _ 0 [] (m.take 0) rfl rfl (by exact lit0 W (Nat.le_refl _)) (by exact S1.out.kept ((Kept.refl (fun _ => False) W).alloc _).plain0) (by have := E1.out; omega) (by simp <;> omega) ?_
                intro v3 w3 o3 g3
                have K3 := hid (((Kept.refl (fun _ => False) W).alloc _).grown g3 (fun k hk => Or.inr (by cases hk; simp <;> omega)))
                have O3 := hid o3
                clear o3 g3
                go_wp2_with fail
                refine hK.out _ _ ((K3.out.cell (p := ⟨b, i * 3, none⟩) hbW (fun e => e)).trans HX2.out) (fun hHeld => ?_)
                clear hK K
                refine wpAnyH_ready (rs := [10]) (by kernel_rfl) (by simp) ?_
                refine AllReadyH.cons rfl (fun K hK => ?_) AllReadyH.nil
                go_simp
                go_wp2_with fail
                refine hK.out _ _ (((K3.out.alloc _).cell (p := ⟨b, i * 3, none⟩) hbW (fun e => e)).trans HX2.out) (fun hHeld => ?_)
                clear hK K
                refine wpAnyH_ready (rs := [11]) (by kernel_rfl) (by simp) ?_
                refine AllReadyH.cons rfl (fun K hK => ?_) AllReadyH.nil
                refine step_append_src rfl (.tmp 35) (.tmp 41) rfl W.heap.size _ v3 _ (0 + (m.take 0).length) ([] ++ row nat1 (m.take 0)) [c] rfl rfl (by exact World.ownsRow.alloc O3.out _) (by exact Src.one _ _) (by have := E1.out; show 0 + (m.take 0).length + 1 ≤ 1000000; omega) (by exact (K3.out.alloc _).size) ?_
                intro v4 w4 o4 g4
                have K4 := hid ((K3.out.alloc _).grown g4 (fun k hk => Or.inr (O3.out.lt k hk).1))
                have O4 := hid o4
                clear o4 g4
                go_wp2_with fail
                refine hK.out _ _ ((K4.out.cell (p := ⟨b, i * 3, none⟩) hbW (fun e => e)).trans HX2.out) (fun hHeld => ?_)
                clear hK K
                refine wpAnyH_ready (rs := [15]) (by kernel_rfl) (by simp) ?_
                refine AllReadyH.cons rfl (fun K hK => ?_) AllReadyH.nil
                refine step_append_src rfl (.tmp 42) (.tmp 45) rfl W.heap.size W.heap.size v4 _ (0 + (m.take 0).length + [c].length) ([] ++ row nat1 (m.take 0) ++ row nat1 [c]) (m.drop 0) rfl rfl (by exact O4.out) (by exact S2.out.kept K4.out.plain0) (by have := E1.out; have := E2.out; show 0 + (m.take 0).length + 1 + (m.drop 0).length ≤ 1000000; omega) (by exact K4.out.size) ?_
                intro v5 w5 o5 g5
                have K5 := hid (K4.out.grown g5 (fun k hk => Or.inr (O4.out.lt k hk).1))
                have O5 := hid o5
                obtain ⟨va5, vc5, rfl⟩ := own_form o5
                clear o5 g5
                go_wp2_with fail
                refine hK.out _ _ ((K5.out.cell (p := ⟨b, i * 3, none⟩) hbW (fun e => e)).trans HX2.out) (fun hHeld => ?_)
                clear hK K
                have OF := hid (own_base O5.out SZ.out)
                have KF := hid (KR.out.trans' K5.out)
                have EL := hid (show (m.take 0 ++ c :: m.drop 0).length = 0 + (m.take 0).length + [c].length + (m.drop 0).length by simp <;> omega)
                have ER := hid (show row nat1 (m.take 0 ++ c :: m.drop 0) = [] ++ row nat1 (m.take 0) ++ row nat1 [c] ++ row nat1 (m.drop 0) by rw [row_append]; simp [row])
                generalize 0 + (m.take 0).length + [c].length + (m.drop 0).length = n5 at *
                refine ord_take 16 3 (.slice va5 n5 vc5) rfl rfl (by kernel_rfl) (by kernel_rfl) (by kernel_rfl) (fun _ _ _ h => h) (by rfl) (fun wS hS => by (try dsimp only at hS); go_split_ands; go_simp) (by assumption) ?_
                simp only [Act.put, List.setIfInBounds_toArray]
                refine wpAnyH_done (by kernel_rfl) ?_ _
                refine NoPanic.normal ?_
                clear O5 O4 O3 K5 K4 K3 HX2
                go_wp2
                go_roundw
                case rel => exact ⟨i + 1, m.take 0 ++ c :: m.drop 0, by go_num, by omega, by rw [EL.out, ER.out]; exact OF.out, (ins_perm m c 0).trans (by rw [ET.out]; exact (HP.out.cons c).trans (by simpa using (List.perm_append_comm (l₁ := [c]) (l₂ := (L.take i).map fun x => x.1)))), SR.out, KF.out⟩
                case measure => simp [intOf]; omega
              · go_simp
                go_wp2_with fail
                refine hK.out _ _ (((((Kept.refl (fun _ => False) W).alloc _).alloc _).cell (p := ⟨b, i * 3, none⟩) hbW (fun e => e)).trans HX2.out) (fun hHeld => ?_)
                clear hK K
                refine wpAnyH_ready (rs := [4]) (by kernel_rfl) (by simp) ?_
                refine AllReadyH.cons rfl (fun K hK => ?_) AllReadyH.nil
                refine step_append_src rfl (.tmp 31) (.tmp 34) rfl W.heap.size W.heap.size _ _ 0 [] (m.take 0) rfl rfl (by exact World.ownsRow.alloc (lit0 W (Nat.le_refl _)) _) (by exact S1.out.kept (((Kept.refl (fun _ => False) W).alloc _).alloc _).plain0) (by have := E1.out; omega) (by simp <;> omega) ?_
                intro v3 w3 o3 g3
                have K3 := hid ((((Kept.refl (fun _ => False) W).alloc _).alloc _).grown g3 (fun k hk => Or.inr (by cases hk; simp <;> omega)))
                have XX := hid ((Src.oneN (W.alloc (.cells #[] 3)) (W.heap.size + 1) (by simp) c).grown g3 (by simp) (by intro hk; have := Option.some.inj hk; simp at this))
                have O3 := hid o3
                clear o3 g3
                go_wp2_with fail
                refine hK.out _ _ ((K3.out.cell (p := ⟨b, i * 3, none⟩) hbW (fun e => e)).trans HX2.out) (fun hHeld => ?_)
                clear hK K
                refine wpAnyH_ready (rs := [11]) (by kernel_rfl) (by simp) ?_
                refine AllReadyH.cons rfl (fun K hK => ?_) AllReadyH.nil
                refine step_append_src rfl (.tmp 35) (.tmp 41) rfl W.heap.size _ v3 _ (0 + (m.take 0).length) ([] ++ row nat1 (m.take 0)) [c] rfl rfl (by exact O3.out) (by exact XX.out) (by have := E1.out; show 0 + (m.take 0).length + 1 ≤ 1000000; omega) (by exact K3.out.size) ?_
                intro v4 w4 o4 g4
                have K4 := hid (K3.out.grown g4 (fun k hk => Or.inr (O3.out.lt k hk).1))
                have O4 := hid o4
                clear o4 g4
                go_wp2_with fail
                refine hK.out _ _ ((K4.out.cell (p := ⟨b, i * 3, none⟩) hbW (fun e => e)).trans HX2.out) (fun hHeld => ?_)
                clear hK K
                refine wpAnyH_ready (rs := [15]) (by kernel_rfl) (by simp) ?_
                refine AllReadyH.cons rfl (fun K hK => ?_) AllReadyH.nil
                refine step_append_src rfl (.tmp 42) (.tmp 45) rfl W.heap.size W.heap.size v4 _ (0 + (m.take 0).length + [c].length) ([] ++ row nat1 (m.take 0) ++ row nat1 [c]) (m.drop 0) rfl rfl (by exact O4.out) (by exact S2.out.kept K4.out.plain0) (by have := E1.out; have := E2.out; show 0 + (m.take 0).length + 1 + (m.drop 0).length ≤ 1000000; omega) (by exact K4.out.size) ?_
                intro v5 w5 o5 g5
                have K5 := hid (K4.out.grown g5 (fun k hk => Or.inr (O4.out.lt k hk).1))
                have O5 := hid o5
                obtain ⟨va5, vc5, rfl⟩ := own_form o5
                clear o5 g5
                go_wp2_with fail
                refine hK.out _ _ ((K5.out.cell (p := ⟨b, i * 3, none⟩) hbW (fun e => e)).trans HX2.out) (fun hHeld => ?_)
                clear hK K
                have OF := hid (own_base O5.out SZ.out)
                have KF := hid (KR.out.trans' K5.out)
                have EL := hid (show (m.take 0 ++ c :: m.drop 0).length = 0 + (m.take 0).length + [c].length + (m.drop 0).length by simp <;> omega)
                have ER := hid (show row nat1 (m.take 0 ++ c :: m.drop 0) = [] ++ row nat1 (m.take 0) ++ row nat1 [c] ++ row nat1 (m.drop 0) by rw [row_append]; simp [row])
                generalize 0 + (m.take 0).length + [c].length + (m.drop 0).length = n5 at *
                refine ord_take 16 3 (.slice va5 n5 vc5) rfl rfl (by kernel_rfl) (by kernel_rfl) (by kernel_rfl) (fun _ _ _ h => h) (by rfl) (fun wS hS => by (try dsimp only at hS); go_split_ands; go_simp) (by assumption) ?_
                simp only [Act.put, List.setIfInBounds_toArray]
                refine wpAnyH_done (by kernel_rfl) ?_ _
                refine NoPanic.normal ?_
                clear O5 O4 O3 K5 K4 K3 HX2
                go_wp2
                go_roundw
                case rel => exact ⟨i + 1, m.take 0 ++ c :: m.drop 0, by go_num, by omega, by rw [EL.out, ER.out]; exact OF.out, (ins_perm m c 0).trans (by rw [ET.out]; exact (HP.out.cons c).trans (by simpa using (List.perm_append_comm (l₁ := [c]) (l₂ := (L.take i).map fun x => x.1)))), SR.out, KF.out⟩
                case measure => simp [intOf]; omega
            · go_simp
              go_wp2_with fail
              refine hK.out _ _ ((((Kept.refl (fun _ => False) W).alloc _).cell (p := ⟨b, i * 3, none⟩) hbW (fun e => e)).trans HX2.out) (fun hHeld => ?_)
              clear hK K
              refine wpAnyH_ready (rs := [0]) (by kernel_rfl) (by simp) ?_
              refine AllReadyH.cons rfl (fun K hK => ?_) AllReadyH.nil
              go_simp
              go_wp2_with fail
              refine hK.out _ _ (((((Kept.refl (fun _ => False) W).alloc _).alloc _).cell (p := ⟨b, i * 3, none⟩) hbW (fun e => e)).trans HX2.out) (fun hHeld => ?_)
              clear hK K
              refine wpAnyH_ready (rs := [4]) (by kernel_rfl) (by simp) ?_
              refine AllReadyH.cons rfl (fun K hK => ?_) AllReadyH.nil
              refine step_append_src rfl (.tmp 31) (.tmp 34) rfl W.heap.size W.heap.size _ _ 0 [] (m.take 0) rfl rfl (by exact lit0' (W.alloc _) (W.heap.size + 1) (by simp) (by omega)) (by exact S1.out.kept (((Kept.refl (fun _ => False) W).alloc _).alloc _).plain0) (by have := E1.out; omega) (by simp <;> omega) ?_
              intro v3 w3 o3 g3
              have K3 := hid ((((Kept.refl (fun _ => False) W).alloc _).alloc _).grown g3 (fun k hk => Or.inr (by cases hk; simp <;> omega)))
              have XX := hid (((Src.one W c).kept (((Kept.refl (fun _ => False) (W.alloc _)).alloc _).below (by simp) (fun _ e => e.elim))).grown g3 (by simp <;> omega) (by intro hk; have := Option.some.inj hk; simp at this))
              have O3 := hid o3
              clear o3 g3
              go_wp2_with fail
              refine hK.out _ _ ((K3.out.cell (p := ⟨b, i * 3, none⟩) hbW (fun e => e)).trans HX2.out) (fun hHeld => ?_)
              clear hK K
              refine wpAnyH_ready (rs := [11]) (by kernel_rfl) (by simp) ?_
              refine AllReadyH.cons rfl (fun K hK => ?_) AllReadyH.nil
              refine step_append_src rfl (.tmp 35) (.tmp 41) rfl W.heap.size _ v3 _ (0 + (m.take 0).length) ([] ++ row nat1 (m.take 0)) [c] rfl rfl (by exact O3.out) (by exact XX.out) (by have := E1.out; show 0 + (m.take 0).length + 1 ≤ 1000000; omega) (by exact K3.out.size) ?_
              intro v4 w4 o4 g4
              have K4 := hid (K3.out.grown g4 (fun k hk => Or.inr (O3.out.lt k hk).1))
              have O4 := hid o4
              clear o4 g4
              go_wp2_with fail
              refine hK.out _ _ ((K4.out.cell (p := ⟨b, i * 3, none⟩) hbW (fun e => e)).trans HX2.out) (fun hHeld => ?_)
              clear hK K
              refine wpAnyH_ready (rs := [15]) (by kernel_rfl) (by simp) ?_
              refine AllReadyH.cons rfl (fun K hK => ?_) AllReadyH.nil
              refine step_append_src rfl (.tmp 42) (.tmp 45) rfl W.heap.size W.heap.size v4 _ (0 + (m.take 0).length + [c].length) ([] ++ row nat1 (m.take 0) ++ row nat1 [c]) (m.drop 0) rfl rfl (by exact O4.out) (by exact S2.out.kept K4.out.plain0) (by have := E1.out; have := E2.out; show 0 + (m.take 0).length + 1 + (m.drop 0).length ≤ 1000000; omega) (by exact K4.out.size) ?_
              intro v5 w5 o5 g5
              have K5 := hid (K4.out.grown g5 (fun k hk => Or.inr (O4.out.lt k hk).1))
              have O5 := hid o5
              obtain ⟨va5, vc5, rfl⟩ := own_form o5
              clear o5 g5
              go_wp2_with fail
              refine hK.out _ _ ((K5.out.cell (p := ⟨b, i * 3, none⟩) hbW (fun e => e)).trans HX2.out) (fun hHeld => ?_)
              clear hK K
              have OF := hid (own_base O5.out SZ.out)
              have KF := hid (KR.out.trans' K5.out)
              have EL := hid (show (m.take 0 ++ c :: m.drop 0).length = 0 + (m.take 0).length + [c].length + (m.drop 0).length by simp <;> omega)
              have ER := hid (show row nat1 (m.take 0 ++ c :: m.drop 0) = [] ++ row nat1 (m.take 0) ++ row nat1 [c] ++ row nat1 (m.drop 0) by rw [row_append]; simp [row])
              generalize 0 + (m.take 0).length + [c].length + (m.drop 0).length = n5 at *
              refine ord_take 16 3 (.slice va5 n5 vc5) rfl rfl (by kernel_rfl) (by kernel_rfl) (by kernel_rfl) (fun _ _ _ h => h) (by rfl) (fun wS hS => by (try dsimp only at hS); go_split_ands; go_simp) (by assumption) ?_
              simp only [Act.put, List.setIfInBounds_toArray]
              refine wpAnyH_done (by kernel_rfl) ?_ _
              refine NoPanic.normal ?_
              clear O5 O4 O3 K5 K4 K3 HX2
              go_wp2
              go_roundw
              case rel => exact ⟨i + 1, m.take 0 ++ c :: m.drop 0, by go_num, by omega, by rw [EL.out, ER.out]; exact OF.out, (ins_perm m c 0).trans (by rw [ET.out]; exact (HP.out.cons c).trans (by simpa using (List.perm_append_comm (l₁ := [c]) (l₂ := (L.take i).map fun x => x.1)))), SR.out, KF.out⟩
              case measure => simp [intOf]; omega

        · have hkp : k - 1 < m.length := by have := HN.out; omega
          have hy : m[k - 1]? = some (m[k - 1]'hkp) := List.getElem?_eq_getElem hkp
          obtain ⟨g', e⟩ := own1_some HO.out (by omega)
          subst e
          have hcell := own1_cell HO.out HN.out hy
          have HY := hid hy
          generalize m[k - 1]'hkp = y at *
          obtain ⟨k1, hk1⟩ : ∃ k1 : Nat, k - 1 = k1 := ⟨_, rfl⟩
          rw [hk1] at hcell
          have hk1' : (k : Int) - 1 = (k1 : Int) := by omega
          have hk2 : (0 : Int) < (k : Int) := by omega
          have hk2n : 0 < k := by omega
          have hk2d : decide (0 < k) = true := by simp; omega
          have hk3 : (k1 : Int) < (n : Int) := by omega
          have HK1 := hid hk1
          clear hy hk1
          replace hcell : w1.cell? ⟨g', k1, none⟩ = some (.int .i64 (y : Int)) := hcell
          by_cases q : c < y
          · have q' : (c : Int) < (y : Int) := by omega
            have q2 : decide (c < y) = true := by simp; omega
            have HG2 := hid (show ∀ j x, k1 ≤ j → m[j]? = some x → c < x from fun j x hj hx => by
              by_cases e : j = k1
              · subst e
                have := HY.out
                rw [HK1.out, hx] at this
                injection this with this
                omega
              · exact HG.out j x (by have := HK1.out; omega) hx)
            go_wp2_with fail
            go_quiet (fail)
            go_wp2
            go_roundw
            case rel => exact ⟨k1, d + nq, rfl, by have := HK1.out; omega, HG2.out, by simp [go_sem]⟩
            case measure => simp [intOf]; have := HK1.out; omega
          · have q' : decide ((c : Int) < (y : Int)) = false := by simp; omega
            have q2 : decide (c < y) = false := by simp; omega
            have HQ := hid q
            go_wp2_with fail
            go_quiet (fail)
            clear hcell q q' hk1' hk2 hk3 hk2n hk2d q2
            have ho2 := own_plain HO.out (((Kept.refl (fun _ => False) w1).drewN d).drewN nq)
            have k2 := KR.out.trans' (((Kept.refl (fun _ => False) w1).drewN d).drewN nq)
            have x2 : ((w1.drewN d).drewN nq).cell? ⟨b, i * 3, none⟩ = some (.int .i64 (c : Int)) := x1
            generalize (w1.drewN d).drewN nq = w2 at *
            clear x1 HO KR
            have KR := hid k2
            have HO := hid ho2
            have hbw : b < w2.heap.size := Nat.lt_of_lt_of_le HB.out k2.size
            have SR := hid (ins_sorted (c := c) (k := k) (by have := HN.out; omega) HS.out HG.out (Or.inr ⟨y, HY.out, by have := HQ.out; omega⟩))
            rcases HO.out.2 with ⟨e, hn0⟩ | ⟨g, gc, cur, e, _, hgb, hgc, hgm, _, _⟩
            · cases e
            · have hgg : g = g' := by injection e with e; injection e with e; injection e with e; exact e.symm
              subst hgg
              obtain rfl : oc = gc := by injection e
              have hgw : g < w2.heap.size := lt_of_block hgb
              have HC := hid (fun (j x : Nat) (hx : m[j]? = some x) => (own1_cell HO.out HN.out hx : w2.cell? ⟨g, j, none⟩ = some (.int .i64 (x : Int))))
              have S1 : Hid (Src w2.heap.size w2 (.slice (some ⟨g, 0, none⟩) k oc) (m.take k)) := Or.inr ⟨g, 0, oc, by rw [List.length_take, Nat.min_eq_left (by have := HN.out; omega)], hgw, fun j x hx => by
                have hj : j < k := by have := (List.getElem?_eq_some_iff.1 hx).1; rw [List.length_take] at this; omega
                rw [List.getElem?_take_of_lt hj] at hx
                rw [Nat.zero_add]; exact HC.out j x hx⟩
              have b0 : (0 : Int) ≤ (k : Int) := by omega
              have b1 : (k : Int) ≤ (n : Int) := by omega
              have b2 : (n : Int) ≤ (oc : Int) := by omega
              have b3 : (k : Int) ≤ (oc : Int) := by omega
              unfold maxLen at hgm
              by_cases hcap : oc = k
              · subst hcap
                obtain rfl : n = oc := by omega
                have hz : n - n = 0 := Nat.sub_self n
                have S2 : Hid (Src w2.heap.size w2 (.slice (some ⟨g, 0, none⟩) 0 0) (m.drop n)) := by
                  rw [List.drop_of_length_le (by have := HN.out; omega)]
                  exact Or.inr ⟨g, 0, 0, rfl, hgw, fun j x hx => by simp at hx⟩
                clear HC hgb e
                have E1 := hid (show (m.take n).length = n by have := HN.out; rw [List.length_take]; omega)
                have E2 := hid (show (m.drop n).length ≤ 1000 by have := HN.out; rw [List.length_drop]; omega)
                have SZ := hid k2.size
                have HX2 := hid x2
                clear k2 ho2
                go_wp2_with fail
                refine wp_region_noPanic ?_
                refine wp_region_held_drew (S := (fun w' => w'.cell? ⟨b, i * 3, none⟩ = some (.int .i64 (c : Int)))) (by kernel_rfl) x2 (fun hHeld => ?_)
                have KD := hid ((Kept.refl (fun _ => False) w2).drew)
                replace S1 := hid (S1.out.kept KD.out.plain0)
                replace S2 := hid (S2.out.kept KD.out.plain0)
                replace KR := hid (KR.out.trans' KD.out)
                have hbW : b < w2.drew.heap.size := hbw
                replace SZ := hid (Nat.le_trans SZ.out KD.out.size)
                replace HX2 : Hid (w2.drew.cell? ⟨b, i * 3, none⟩ = some (.int .i64 (c : Int))) := HX2.out
                have eB : w2.heap.size = w2.drew.heap.size := rfl
                rw [eB] at S1 S2
                clear eB KD x2 HO
                generalize w2.drew = W at *
                refine ord_take 1 32 (.slice (some ⟨g, 0, none⟩) n n) rfl rfl (by kernel_rfl) (by kernel_rfl) (by kernel_rfl) (fun _ _ _ h => h) (by rfl) (fun wS hS => by (try dsimp only at hS); go_split_ands; go_simp) (by assumption) ?_
                simp only [Act.put, List.setIfInBounds_toArray, List.set_cons_zero, List.set_cons_succ]
                refine ord_take 2 33 (.int .i64 (n : Int)) rfl rfl (by kernel_rfl) (by kernel_rfl) (by kernel_rfl) (fun _ _ _ h => h) (by rfl) (fun wS hS => by (try dsimp only at hS); go_split_ands; go_simp) (by assumption) ?_
                simp only [Act.put, List.setIfInBounds_toArray, List.set_cons_zero, List.set_cons_succ]
                refine ord_take 3 34 (.slice (some ⟨g, 0, none⟩) n n) rfl rfl (by kernel_rfl) (by kernel_rfl) (by kernel_rfl) (fun _ _ _ h => h) (by rfl) (fun wS hS => by (try dsimp only at hS); go_split_ands; go_simp) (by assumption) ?_
                simp only [Act.put, List.setIfInBounds_toArray, List.set_cons_zero, List.set_cons_succ]
                refine ord_take 5 36 (.slice (some ⟨b, 0, none⟩) L.length vc) rfl rfl (by kernel_rfl) (by kernel_rfl) (by kernel_rfl) (fun _ _ _ h => h) (by rfl) (fun wS hS => by (try dsimp only at hS); go_split_ands; go_simp) (by assumption) ?_
                simp only [Act.put, List.setIfInBounds_toArray, List.set_cons_zero, List.set_cons_succ]
                refine ord_take 6 37 (.int .i64 (i : Int)) rfl rfl (by kernel_rfl) (by kernel_rfl) (by kernel_rfl) (fun _ _ _ h => h) (by rfl) (fun wS hS => by (try dsimp only at hS); go_split_ands; go_simp) (by assumption) ?_
                simp only [Act.put, List.setIfInBounds_toArray, List.set_cons_zero, List.set_cons_succ]
                refine ord_take 7 38 (.pointer (some ⟨b, i * 3, none⟩)) rfl rfl (by kernel_rfl) (by kernel_rfl) (by kernel_rfl) (fun _ _ _ h => h) (by rfl) (fun wS hS => by (try dsimp only at hS); go_split_ands; go_simp) (by assumption) ?_
                simp only [Act.put, List.setIfInBounds_toArray, List.set_cons_zero, List.set_cons_succ]
                refine ord_take 8 39 (.pointer (some ⟨b, i * 3, none⟩)) rfl rfl (by kernel_rfl) (by kernel_rfl) (by kernel_rfl) (fun _ _ _ h => h) (by rfl) (fun wS hS => by (try dsimp only at hS); go_split_ands; go_simp) (by assumption) ?_
                simp only [Act.put, List.setIfInBounds_toArray, List.set_cons_zero, List.set_cons_succ]
                refine ord_take 9 40 (.int .i64 (c : Int)) rfl rfl (by kernel_rfl) (by kernel_rfl) (by kernel_rfl) (fun _ _ _ h => h) (by rfl) (fun wS hS => by (try dsimp only at hS); go_split_ands; go_simp) (by assumption) ?_
                simp only [Act.put, List.setIfInBounds_toArray, List.set_cons_zero, List.set_cons_succ]
                refine ord_take 12 43 (.slice (some ⟨g, 0, none⟩) n n) rfl rfl (by kernel_rfl) (by kernel_rfl) (by kernel_rfl) (fun _ _ _ h => h) (by rfl) (fun wS hS => by (try dsimp only at hS); go_split_ands; go_simp) (by assumption) ?_
                simp only [Act.put, List.setIfInBounds_toArray, List.set_cons_zero, List.set_cons_succ]
                refine ord_take 13 44 (.int .i64 (n : Int)) rfl rfl (by kernel_rfl) (by kernel_rfl) (by kernel_rfl) (fun _ _ _ h => h) (by rfl) (fun wS hS => by (try dsimp only at hS); go_split_ands; go_simp) (by assumption) ?_
                simp only [Act.put, List.setIfInBounds_toArray, List.set_cons_zero, List.set_cons_succ]
                refine ord_take 14 45 (.slice (some ⟨g, 0, none⟩) 0 0) rfl rfl (by kernel_rfl) (by kernel_rfl) (by kernel_rfl) (fun _ _ _ h => h) (by rfl) (fun wS hS => by (try dsimp only at hS); go_split_ands; go_simp) (by assumption) ?_
                simp only [Act.put, List.setIfInBounds_toArray, List.set_cons_zero, List.set_cons_succ]
                clear hHeld
                refine wpAnyH_ready (rs := [0, 10]) (by kernel_rfl) (by simp) ?_
                refine AllReadyH.cons rfl (fun K hK => ?_) (AllReadyH.cons rfl (fun K hK => ?_) AllReadyH.nil)
                · go_simp
                  go_wp2_with fail
                  refine hK.out _ _ ((((Kept.refl (fun _ => False) W).alloc _).cell (p := ⟨b, i * 3, none⟩) hbW (fun e => e)).trans HX2.out) (fun hHeld => ?_)
                  clear hK K
                  refine wpAnyH_ready (rs := [4, 10]) (by kernel_rfl) (by simp) ?_
                  refine AllReadyH.cons rfl (fun K hK => ?_) (AllReadyH.cons rfl (fun K hK => ?_) AllReadyH.nil)
                  · refine step_append_src rfl (.tmp 31) (.tmp 34) rfl W.heap.size W.heap.size _ _ 0 [] (m.take n) rfl rfl (by exact lit0 W (Nat.le_refl _)) (by exact S1.out.kept ((Kept.refl (fun _ => False) W).alloc _).plain0) (by have := E1.out; omega) (by simp <;> omega) ?_
                    intro v3 w3 o3 g3
                    have K3 := hid (((Kept.refl (fun _ => False) W).alloc _).grown g3 (fun k hk => Or.inr (by cases hk; simp <;> omega)))
                    have O3 := hid o3
                    clear o3 g3
                    go_wp2_with fail
                    refine hK.out _ _ ((K3.out.cell (p := ⟨b, i * 3, none⟩) hbW (fun e => e)).trans HX2.out) (fun hHeld => ?_)
                    clear hK K
                    refine wpAnyH_ready (rs := [10]) (by kernel_rfl) (by simp) ?_
                    refine AllReadyH.cons rfl (fun K hK => ?_) AllReadyH.nil
                    go_simp
                    go_wp2_with fail
                    refine hK.out _ _ (((K3.out.alloc _).cell (p := ⟨b, i * 3, none⟩) hbW (fun e => e)).trans HX2.out) (fun hHeld => ?_)
                    clear hK K
                    refine wpAnyH_ready (rs := [11]) (by kernel_rfl) (by simp) ?_
                    refine AllReadyH.cons rfl (fun K hK => ?_) AllReadyH.nil
                    refine step_append_src rfl (.tmp 35) (.tmp 41) rfl W.heap.size _ v3 _ (0 + (m.take n).length) ([] ++ row nat1 (m.take n)) [c] rfl rfl (by exact World.ownsRow.alloc O3.out _) (by exact Src.one _ _) (by have := E1.out; show 0 + (m.take n).length + 1 ≤ 1000000; omega) (by exact (K3.out.alloc _).size) ?_
                    intro v4 w4 o4 g4
                    have K4 := hid ((K3.out.alloc _).grown g4 (fun k hk => Or.inr (O3.out.lt k hk).1))
                    have O4 := hid o4
                    clear o4 g4
                    go_wp2_with fail
                    refine hK.out _ _ ((K4.out.cell (p := ⟨b, i * 3, none⟩) hbW (fun e => e)).trans HX2.out) (fun hHeld => ?_)
                    clear hK K
                    refine wpAnyH_ready (rs := [15]) (by kernel_rfl) (by simp) ?_
                    refine AllReadyH.cons rfl (fun K hK => ?_) AllReadyH.nil
                    refine step_append_src rfl (.tmp 42) (.tmp 45) rfl W.heap.size W.heap.size v4 _ (0 + (m.take n).length + [c].length) ([] ++ row nat1 (m.take n) ++ row nat1 [c]) (m.drop n) rfl rfl (by exact O4.out) (by exact S2.out.kept K4.out.plain0) (by have := E1.out; have := E2.out; show 0 + (m.take n).length + 1 + (m.drop n).length ≤ 1000000; omega) (by exact K4.out.size) ?_
                    intro v5 w5 o5 g5
                    have K5 := hid (K4.out.grown g5 (fun k hk => Or.inr (O4.out.lt k hk).1))
                    have O5 := hid o5
                    obtain ⟨va5, vc5, rfl⟩ := own_form o5
                    clear o5 g5
                    go_wp2_with fail
                    refine hK.out _ _ ((K5.out.cell (p := ⟨b, i * 3, none⟩) hbW (fun e => e)).trans HX2.out) (fun hHeld => ?_)
                    clear hK K
                    have OF := hid (own_base O5.out SZ.out)
                    have KF := hid (KR.out.trans' K5.out)
                    have EL := hid (show (m.take n ++ c :: m.drop n).length = 0 + (m.take n).length + [c].length + (m.drop n).length by simp <;> omega)
                    have ER := hid (show row nat1 (m.take n ++ c :: m.drop n) = [] ++ row nat1 (m.take n) ++ row nat1 [c] ++ row nat1 (m.drop n) by rw [row_append]; simp [row])
                    generalize 0 + (m.take n).length + [c].length + (m.drop n).length = n5 at *
                    refine ord_take 16 3 (.slice va5 n5 vc5) rfl rfl (by kernel_rfl) (by kernel_rfl) (by kernel_rfl) (fun _ _ _ h => h) (by rfl) (fun wS hS => by (try dsimp only at hS); go_split_ands; go_simp) (by assumption) ?_
                    simp only [Act.put, List.setIfInBounds_toArray]
                    refine wpAnyH_done (by kernel_rfl) ?_ _
                    refine NoPanic.normal ?_
                    clear O5 O4 O3 K5 K4 K3 HX2
                    go_wp2
                    go_roundw
                    case rel => exact ⟨i + 1, m.take n ++ c :: m.drop n, by go_num, by omega, by rw [EL.out, ER.out]; exact OF.out, (ins_perm m c n).trans (by rw [ET.out]; exact (HP.out.cons c).trans (by simpa using (List.perm_append_comm (l₁ := [c]) (l₂ := (L.take i).map fun x => x.1)))), SR.out, KF.out⟩
                    case measure => simp [intOf]; omega
                  · go_simp
                    go_wp2_with fail
                    refine hK.out _ _ (((((Kept.refl (fun _ => False) W).alloc _).alloc _).cell (p := ⟨b, i * 3, none⟩) hbW (fun e => e)).trans HX2.out) (fun hHeld => ?_)
                    clear hK K
                    refine wpAnyH_ready (rs := [4]) (by kernel_rfl) (by simp) ?_
                    refine AllReadyH.cons rfl (fun K hK => ?_) AllReadyH.nil
                    refine step_append_src rfl (.tmp 31) (.tmp 34) rfl W.heap.size W.heap.size _ _ 0 [] (m.take n) rfl rfl (by exact World.ownsRow.alloc (lit0 W (Nat.le_refl _)) _) (by exact S1.out.kept (((Kept.refl (fun _ => False) W).alloc _).alloc _).plain0) (by have := E1.out; omega) (by simp <;> omega) ?_
                    intro v3 w3 o3 g3
                    have K3 := hid ((((Kept.refl (fun _ => False) W).alloc _).alloc _).grown g3 (fun k hk => Or.inr (by cases hk; simp <;> omega)))
                    have XX := hid ((Src.oneN (W.alloc (.cells #[] 3)) (W.heap.size + 1) (by simp) c).grown g3 (by simp) (by intro hk; have := Option.some.inj hk; simp at this))
                    have O3 := hid o3
                    clear o3 g3
                    go_wp2_with fail
                    refine hK.out _ _ ((K3.out.cell (p := ⟨b, i * 3, none⟩) hbW (fun e => e)).trans HX2.out) (fun hHeld => ?_)
                    clear hK K
                    refine wpAnyH_ready (rs := [11]) (by kernel_rfl) (by simp) ?_
                    refine AllReadyH.cons rfl (fun K hK => ?_) AllReadyH.nil
                    refine step_append_src rfl (.tmp 35) (.tmp 41) rfl W.heap.size _ v3 _ (0 + (m.take n).length) ([] ++ row nat1 (m.take n)) [c] rfl rfl (by exact O3.out) (by exact XX.out) (by have := E1.out; show 0 + (m.take n).length + 1 ≤ 1000000; omega) (by exact K3.out.size) ?_
                    intro v4 w4 o4 g4
                    have K4 := hid (K3.out.grown g4 (fun k hk => Or.inr (O3.out.lt k hk).1))
                    have O4 := hid o4
                    clear o4 g4
                    go_wp2_with fail
                    refine hK.out _ _ ((K4.out.cell (p := ⟨b, i * 3, none⟩) hbW (fun e => e)).trans HX2.out) (fun hHeld => ?_)
                    clear hK K
                    refine wpAnyH_ready (rs := [15]) (by kernel_rfl) (by simp) ?_
                    refine AllReadyH.cons rfl (fun K hK => ?_) AllReadyH.nil
                    refine step_append_src rfl (.tmp 42) (.tmp 45) rfl W.heap.size W.heap.size v4 _ (0 + (m.take n).length + [c].length) ([] ++ row nat1 (m.take n) ++ row nat1 [c]) (m.drop n) rfl rfl (by exact O4.out) (by exact S2.out.kept K4.out.plain0) (by have := E1.out; have := E2.out; show 0 + (m.take n).length + 1 + (m.drop n).length ≤ 1000000; omega) (by exact K4.out.size) ?_
                    intro v5 w5 o5 g5
                    have K5 := hid (K4.out.grown g5 (fun k hk => Or.inr (O4.out.lt k hk).1))
                    have O5 := hid o5
                    obtain ⟨va5, vc5, rfl⟩ := own_form o5
                    clear o5 g5
                    go_wp2_with fail
                    refine hK.out _ _ ((K5.out.cell (p := ⟨b, i * 3, none⟩) hbW (fun e => e)).trans HX2.out) (fun hHeld => ?_)
                    clear hK K
                    have OF := hid (own_base O5.out SZ.out)
                    have KF := hid (KR.out.trans' K5.out)
                    have EL := hid (show (m.take n ++ c :: m.drop n).length = 0 + (m.take n).length + [c].length + (m.drop n).length by simp <;> omega)
                    have ER := hid (show row nat1 (m.take n ++ c :: m.drop n) = [] ++ row nat1 (m.take n) ++ row nat1 [c] ++ row nat1 (m.drop n) by rw [row_append]; simp [row])
                    generalize 0 + (m.take n).length + [c].length + (m.drop n).length = n5 at *
                    refine ord_take 16 3 (.slice va5 n5 vc5) rfl rfl (by kernel_rfl) (by kernel_rfl) (by kernel_rfl) (fun _ _ _ h => h) (by rfl) (fun wS hS => by (try dsimp only at hS); go_split_ands; go_simp) (by assumption) ?_
                    simp only [Act.put, List.setIfInBounds_toArray]
                    refine wpAnyH_done (by kernel_rfl) ?_ _
                    refine NoPanic.normal ?_
                    clear O5 O4 O3 K5 K4 K3 HX2
                    go_wp2
                    go_roundw
                    case rel => exact ⟨i + 1, m.take n ++ c :: m.drop n, by go_num, by omega, by rw [EL.out, ER.out]; exact OF.out, (ins_perm m c n).trans (by rw [ET.out]; exact (HP.out.cons c).trans (by simpa using (List.perm_append_comm (l₁ := [c]) (l₂ := (L.take i).map fun x => x.1)))), SR.out, KF.out⟩
                    case measure => simp [intOf]; omega
                · go_simp
                  go_wp2_with fail
                  refine hK.out _ _ ((((Kept.refl (fun _ => False) W).alloc _).cell (p := ⟨b, i * 3, none⟩) hbW (fun e => e)).trans HX2.out) (fun hHeld => ?_)
                  clear hK K
                  refine wpAnyH_ready (rs := [0]) (by kernel_rfl) (by simp) ?_
                  refine AllReadyH.cons rfl (fun K hK => ?_) AllReadyH.nil
                  go_simp
                  go_wp2_with fail
                  refine hK.out _ _ (((((Kept.refl (fun _ => False) W).alloc _).alloc _).cell (p := ⟨b, i * 3, none⟩) hbW (fun e => e)).trans HX2.out) (fun hHeld => ?_)
                  clear hK K
                  refine wpAnyH_ready (rs := [4]) (by kernel_rfl) (by simp) ?_
                  refine AllReadyH.cons rfl (fun K hK => ?_) AllReadyH.nil
                  refine step_append_src rfl (.tmp 31) (.tmp 34) rfl W.heap.size W.heap.size _ _ 0 [] (m.take n) rfl rfl (by exact lit0' (W.alloc _) (W.heap.size + 1) (by simp) (by omega)) (by exact S1.out.kept (((Kept.refl (fun _ => False) W).alloc _).alloc _).plain0) (by have := E1.out; omega) (by simp <;> omega) ?_
                  intro v3 w3 o3 g3
                  have K3 := hid ((((Kept.refl (fun _ => False) W).alloc _).alloc _).grown g3 (fun k hk => Or.inr (by cases hk; simp <;> omega)))
                  have XX := hid (((Src.one W c).kept (((Kept.refl (fun _ => False) (W.alloc _)).alloc _).below (by simp) (fun _ e => e.elim))).grown g3 (by simp <;> omega) (by intro hk; have := Option.some.inj hk; simp at this))
                  have O3 := hid o3
                  clear o3 g3
                  go_wp2_with fail
                  refine hK.out _ _ ((K3.out.cell (p := ⟨b, i * 3, none⟩) hbW (fun e => e)).trans HX2.out) (fun hHeld => ?_)
                  clear hK K
                  refine wpAnyH_ready (rs := [11]) (by kernel_rfl) (by simp) ?_
                  refine AllReadyH.cons rfl (fun K hK => ?_) AllReadyH.nil
                  refine step_append_src rfl (.tmp 35) (.tmp 41) rfl W.heap.size _ v3 _ (0 + (m.take n).length) ([] ++ row nat1 (m.take n)) [c] rfl rfl (by exact O3.out) (by exact XX.out) (by have := E1.out; show 0 + (m.take n).length + 1 ≤ 1000000; omega) (by exact K3.out.size) ?_
                  intro v4 w4 o4 g4
                  have K4 := hid (K3.out.grown g4 (fun k hk => Or.inr (O3.out.lt k hk).1))
                  have O4 := hid o4
                  clear o4 g4
                  go_wp2_with fail
                  refine hK.out _ _ ((K4.out.cell (p := ⟨b, i * 3, none⟩) hbW (fun e => e)).trans HX2.out) (fun hHeld => ?_)
                  clear hK K
                  refine wpAnyH_ready (rs := [15]) (by kernel_rfl) (by simp) ?_
                  refine AllReadyH.cons rfl (fun K hK => ?_) AllReadyH.nil
                  refine step_append_src rfl (.tmp 42) (.tmp 45) rfl W.heap.size W.heap.size v4 _ (0 + (m.take n).length + [c].length) ([] ++ row nat1 (m.take n) ++ row nat1 [c]) (m.drop n) rfl rfl (by exact O4.out) (by exact S2.out.kept K4.out.plain0) (by have := E1.out; have := E2.out; show 0 + (m.take n).length + 1 + (m.drop n).length ≤ 1000000; omega) (by exact K4.out.size) ?_
                  intro v5 w5 o5 g5
                  have K5 := hid (K4.out.grown g5 (fun k hk => Or.inr (O4.out.lt k hk).1))
                  have O5 := hid o5
                  obtain ⟨va5, vc5, rfl⟩ := own_form o5
                  clear o5 g5
                  go_wp2_with fail
                  refine hK.out _ _ ((K5.out.cell (p := ⟨b, i * 3, none⟩) hbW (fun e => e)).trans HX2.out) (fun hHeld => ?_)
                  clear hK K
                  have OF := hid (own_base O5.out SZ.out)
                  have KF := hid (KR.out.trans' K5.out)
                  have EL := hid (show (m.take n ++ c :: m.drop n).length = 0 + (m.take n).length + [c].length + (m.drop n).length by simp <;> omega)
                  have ER := hid (show row nat1 (m.take n ++ c :: m.drop n) = [] ++ row nat1 (m.take n) ++ row nat1 [c] ++ row nat1 (m.drop n) by rw [row_append]; simp [row])
                  generalize 0 + (m.take n).length + [c].length + (m.drop n).length = n5 at *
                  refine ord_take 16 3 (.slice va5 n5 vc5) rfl rfl (by kernel_rfl) (by kernel_rfl) (by kernel_rfl) (fun _ _ _ h => h) (by rfl) (fun wS hS => by (try dsimp only at hS); go_split_ands; go_simp) (by assumption) ?_
                  simp only [Act.put, List.setIfInBounds_toArray]
                  refine wpAnyH_done (by kernel_rfl) ?_ _
                  refine NoPanic.normal ?_
                  clear O5 O4 O3 K5 K4 K3 HX2
                  go_wp2
                  go_roundw
                  case rel => exact ⟨i + 1, m.take n ++ c :: m.drop n, by go_num, by omega, by rw [EL.out, ER.out]; exact OF.out, (ins_perm m c n).trans (by rw [ET.out]; exact (HP.out.cons c).trans (by simpa using (List.perm_append_comm (l₁ := [c]) (l₂ := (L.take i).map fun x => x.1)))), SR.out, KF.out⟩
                  case measure => simp [intOf]; omega
              · have hcap2 : ¬ oc - k = 0 := by omega
                have S2 : Hid (Src w2.heap.size w2 (.slice (some ⟨g, k, none⟩) (n - k) (oc - k)) (m.drop k)) := Or.inr ⟨g, k, oc - k, by rw [List.length_drop, ← HN.out], hgw, fun j x hx => by
                  rw [List.getElem?_drop] at hx
                  exact HC.out (k + j) x hx⟩
                clear HC hgb e
                have E1 := hid (show (m.take k).length = k by have := HN.out; rw [List.length_take]; omega)
                have E2 := hid (show (m.drop k).length ≤ 1000 by have := HN.out; rw [List.length_drop]; omega)
                have SZ := hid k2.size
                have HX2 := hid x2
                clear k2 ho2
                go_wp2_with fail
                refine wp_region_noPanic ?_
                refine wp_region_held_drew (S := (fun w' => w'.cell? ⟨b, i * 3, none⟩ = some (.int .i64 (c : Int)))) (by kernel_rfl) x2 (fun hHeld => ?_)
                have KD := hid ((Kept.refl (fun _ => False) w2).drew)
                replace S1 := hid (S1.out.kept KD.out.plain0)
                replace S2 := hid (S2.out.kept KD.out.plain0)
                replace KR := hid (KR.out.trans' KD.out)
                have hbW : b < w2.drew.heap.size := hbw
                replace SZ := hid (Nat.le_trans SZ.out KD.out.size)
                replace HX2 : Hid (w2.drew.cell? ⟨b, i * 3, none⟩ = some (.int .i64 (c : Int))) := HX2.out
                have eB : w2.heap.size = w2.drew.heap.size := rfl
                rw [eB] at S1 S2
                clear eB KD x2 HO
                generalize w2.drew = W at *
                refine ord_take 1 32 (.slice (some ⟨g, 0, none⟩) n oc) rfl rfl (by kernel_rfl) (by kernel_rfl) (by kernel_rfl) (fun _ _ _ h => h) (by rfl) (fun wS hS => by (try dsimp only at hS); go_split_ands; go_simp) (by assumption) ?_
                simp only [Act.put, List.setIfInBounds_toArray, List.set_cons_zero, List.set_cons_succ]
                refine ord_take 2 33 (.int .i64 (k : Int)) rfl rfl (by kernel_rfl) (by kernel_rfl) (by kernel_rfl) (fun _ _ _ h => h) (by rfl) (fun wS hS => by (try dsimp only at hS); go_split_ands; go_simp) (by assumption) ?_
                simp only [Act.put, List.setIfInBounds_toArray, List.set_cons_zero, List.set_cons_succ]
                refine ord_take 3 34 (.slice (some ⟨g, 0, none⟩) k oc) rfl rfl (by kernel_rfl) (by kernel_rfl) (by kernel_rfl) (fun _ _ _ h => h) (by rfl) (fun wS hS => by (try dsimp only at hS); go_split_ands; go_simp) (by assumption) ?_
                simp only [Act.put, List.setIfInBounds_toArray, List.set_cons_zero, List.set_cons_succ]
                refine ord_take 5 36 (.slice (some ⟨b, 0, none⟩) L.length vc) rfl rfl (by kernel_rfl) (by kernel_rfl) (by kernel_rfl) (fun _ _ _ h => h) (by rfl) (fun wS hS => by (try dsimp only at hS); go_split_ands; go_simp) (by assumption) ?_
                simp only [Act.put, List.setIfInBounds_toArray, List.set_cons_zero, List.set_cons_succ]
                refine ord_take 6 37 (.int .i64 (i : Int)) rfl rfl (by kernel_rfl) (by kernel_rfl) (by kernel_rfl) (fun _ _ _ h => h) (by rfl) (fun wS hS => by (try dsimp only at hS); go_split_ands; go_simp) (by assumption) ?_
                simp only [Act.put, List.setIfInBounds_toArray, List.set_cons_zero, List.set_cons_succ]
                refine ord_take 7 38 (.pointer (some ⟨b, i * 3, none⟩)) rfl rfl (by kernel_rfl) (by kernel_rfl) (by kernel_rfl) (fun _ _ _ h => h) (by rfl) (fun wS hS => by (try dsimp only at hS); go_split_ands; go_simp) (by assumption) ?_
                simp only [Act.put, List.setIfInBounds_toArray, List.set_cons_zero, List.set_cons_succ]
                refine ord_take 8 39 (.pointer (some ⟨b, i * 3, none⟩)) rfl rfl (by kernel_rfl) (by kernel_rfl) (by kernel_rfl) (fun _ _ _ h => h) (by rfl) (fun wS hS => by (try dsimp only at hS); go_split_ands; go_simp) (by assumption) ?_
                simp only [Act.put, List.setIfInBounds_toArray, List.set_cons_zero, List.set_cons_succ]
                refine ord_take 9 40 (.int .i64 (c : Int)) rfl rfl (by kernel_rfl) (by kernel_rfl) (by kernel_rfl) (fun _ _ _ h => h) (by rfl) (fun wS hS => by (try dsimp only at hS); go_split_ands; go_simp) (by assumption) ?_
                simp only [Act.put, List.setIfInBounds_toArray, List.set_cons_zero, List.set_cons_succ]
                refine ord_take 12 43 (.slice (some ⟨g, 0, none⟩) n oc) rfl rfl (by kernel_rfl) (by kernel_rfl) (by kernel_rfl) (fun _ _ _ h => h) (by rfl) (fun wS hS => by (try dsimp only at hS); go_split_ands; go_simp) (by assumption) ?_
                simp only [Act.put, List.setIfInBounds_toArray, List.set_cons_zero, List.set_cons_succ]
                refine ord_take 13 44 (.int .i64 (k : Int)) rfl rfl (by kernel_rfl) (by kernel_rfl) (by kernel_rfl) (fun _ _ _ h => h) (by rfl) (fun wS hS => by (try dsimp only at hS); go_split_ands; go_simp) (by assumption) ?_
                simp only [Act.put, List.setIfInBounds_toArray, List.set_cons_zero, List.set_cons_succ]
                refine ord_take 14 45 (.slice (some ⟨g, k, none⟩) (n - k) (oc - k)) rfl rfl (by kernel_rfl) (by kernel_rfl) (by kernel_rfl) (fun _ _ _ h => h) (by rfl) (fun wS hS => by (try dsimp only at hS); go_split_ands; go_simp) (by assumption) ?_
                simp only [Act.put, List.setIfInBounds_toArray, List.set_cons_zero, List.set_cons_succ]
                clear hHeld
                refine wpAnyH_ready (rs := [0, 10]) (by kernel_rfl) (by simp) ?_
                refine AllReadyH.cons rfl (fun K hK => ?_) (AllReadyH.cons rfl (fun K hK => ?_) AllReadyH.nil)
                · go_simp
                  go_wp2_with fail
                  refine hK.out _ _ ((((Kept.refl (fun _ => False) W).alloc _).cell (p := ⟨b, i * 3, none⟩) hbW (fun e => e)).trans HX2.out) (fun hHeld => ?_)
                  clear hK K
                  refine wpAnyH_ready (rs := [4, 10]) (by kernel_rfl) (by simp) ?_
                  refine AllReadyH.cons rfl (fun K hK => ?_) (AllReadyH.cons rfl (fun K hK => ?_) AllReadyH.nil)
                  · refine step_append_src rfl (.tmp 31) (.tmp 34) rfl W.heap.size W.heap.size _ _ 0 [] (m.take k) rfl rfl (by exact lit0 W (Nat.le_refl _)) (by exact S1.out.kept ((Kept.refl (fun _ => False) W).alloc _).plain0) (by have := E1.out; omega) (by simp <;> omega) ?_
                    intro v3 w3 o3 g3
                    have K3 := hid (((Kept.refl (fun _ => False) W).alloc _).grown g3 (fun k hk => Or.inr (by cases hk; simp <;> omega)))
                    have O3 := hid o3
                    clear o3 g3
                    go_wp2_with fail
                    refine hK.out _ _ ((K3.out.cell (p := ⟨b, i * 3, none⟩) hbW (fun e => e)).trans HX2.out) (fun hHeld => ?_)
                    clear hK K
                    refine wpAnyH_ready (rs := [10]) (by kernel_rfl) (by simp) ?_
                    refine AllReadyH.cons rfl (fun K hK => ?_) AllReadyH.nil
                    go_simp
                    go_wp2_with fail
                    refine hK.out _ _ (((K3.out.alloc _).cell (p := ⟨b, i * 3, none⟩) hbW (fun e => e)).trans HX2.out) (fun hHeld => ?_)
                    clear hK K
                    refine wpAnyH_ready (rs := [11]) (by kernel_rfl) (by simp) ?_
                    refine AllReadyH.cons rfl (fun K hK => ?_) AllReadyH.nil
                    refine step_append_src rfl (.tmp 35) (.tmp 41) rfl W.heap.size _ v3 _ (0 + (m.take k).length) ([] ++ row nat1 (m.take k)) [c] rfl rfl (by exact World.ownsRow.alloc O3.out _) (by exact Src.one _ _) (by have := E1.out; show 0 + (m.take k).length + 1 ≤ 1000000; omega) (by exact (K3.out.alloc _).size) ?_
                    intro v4 w4 o4 g4
                    have K4 := hid ((K3.out.alloc _).grown g4 (fun k hk => Or.inr (O3.out.lt k hk).1))
                    have O4 := hid o4
                    clear o4 g4
                    go_wp2_with fail
                    refine hK.out _ _ ((K4.out.cell (p := ⟨b, i * 3, none⟩) hbW (fun e => e)).trans HX2.out) (fun hHeld => ?_)
                    clear hK K
                    refine wpAnyH_ready (rs := [15]) (by kernel_rfl) (by simp) ?_
                    refine AllReadyH.cons rfl (fun K hK => ?_) AllReadyH.nil
                    refine step_append_src rfl (.tmp 42) (.tmp 45) rfl W.heap.size W.heap.size v4 _ (0 + (m.take k).length + [c].length) ([] ++ row nat1 (m.take k) ++ row nat1 [c]) (m.drop k) rfl rfl (by exact O4.out) (by exact S2.out.kept K4.out.plain0) (by have := E1.out; have := E2.out; show 0 + (m.take k).length + 1 + (m.drop k).length ≤ 1000000; omega) (by exact K4.out.size) ?_
                    intro v5 w5 o5 g5
                    have K5 := hid (K4.out.grown g5 (fun k hk => Or.inr (O4.out.lt k hk).1))
                    have O5 := hid o5
                    obtain ⟨va5, vc5, rfl⟩ := own_form o5
                    clear o5 g5
                    go_wp2_with fail
                    refine hK.out _ _ ((K5.out.cell (p := ⟨b, i * 3, none⟩) hbW (fun e => e)).trans HX2.out) (fun hHeld => ?_)
                    clear hK K
                    have OF := hid (own_base O5.out SZ.out)
                    have KF := hid (KR.out.trans' K5.out)
                    have EL := hid (show (m.take k ++ c :: m.drop k).length = 0 + (m.take k).length + [c].length + (m.drop k).length by simp <;> omega)
                    have ER := hid (show row nat1 (m.take k ++ c :: m.drop k) = [] ++ row nat1 (m.take k) ++ row nat1 [c] ++ row nat1 (m.drop k) by rw [row_append]; simp [row])
                    generalize 0 + (m.take k).length + [c].length + (m.drop k).length = n5 at *
                    refine ord_take 16 3 (.slice va5 n5 vc5) rfl rfl (by kernel_rfl) (by kernel_rfl) (by kernel_rfl) (fun _ _ _ h => h) (by rfl) (fun wS hS => by (try dsimp only at hS); go_split_ands; go_simp) (by assumption) ?_
                    simp only [Act.put, List.setIfInBounds_toArray]
                    refine wpAnyH_done (by kernel_rfl) ?_ _
                    refine NoPanic.normal ?_
                    clear O5 O4 O3 K5 K4 K3 HX2
                    go_wp2
                    go_roundw
                    case rel => exact ⟨i + 1, m.take k ++ c :: m.drop k, by go_num, by omega, by rw [EL.out, ER.out]; exact OF.out, (ins_perm m c k).trans (by rw [ET.out]; exact (HP.out.cons c).trans (by simpa using (List.perm_append_comm (l₁ := [c]) (l₂ := (L.take i).map fun x => x.1)))), SR.out, KF.out⟩
                    case measure => simp [intOf]; omega
                  · go_simp
                    go_wp2_with fail
                    refine hK.out _ _ (((((Kept.refl (fun _ => False) W).alloc _).alloc _).cell (p := ⟨b, i * 3, none⟩) hbW (fun e => e)).trans HX2.out) (fun hHeld => ?_)
                    clear hK K
                    refine wpAnyH_ready (rs := [4]) (by kernel_rfl) (by simp) ?_
                    refine AllReadyH.cons rfl (fun K hK => ?_) AllReadyH.nil
                    refine step_append_src rfl (.tmp 31) (.tmp 34) rfl W.heap.size W.heap.size _ _ 0 [] (m.take k) rfl rfl (by exact World.ownsRow.alloc (lit0 W (Nat.le_refl _)) _) (by exact S1.out.kept (((Kept.refl (fun _ => False) W).alloc _).alloc _).plain0) (by have := E1.out; omega) (by simp <;> omega) ?_
                    intro v3 w3 o3 g3
                    have K3 := hid ((((Kept.refl (fun _ => False) W).alloc _).alloc _).grown g3 (fun k hk => Or.inr (by cases hk; simp <;> omega)))
                    have XX := hid ((Src.oneN (W.alloc (.cells #[] 3)) (W.heap.size + 1) (by simp) c).grown g3 (by simp) (by intro hk; have := Option.some.inj hk; simp at this))
                    have O3 := hid o3
                    clear o3 g3
                    go_wp2_with fail
                    refine hK.out _ _ ((K3.out.cell (p := ⟨b, i * 3, none⟩) hbW (fun e => e)).trans HX2.out) (fun hHeld => ?_)
                    clear hK K
                    refine wpAnyH_ready (rs := [11]) (by kernel_rfl) (by simp) ?_
                    refine AllReadyH.cons rfl (fun K hK => ?_) AllReadyH.nil
                    refine step_append_src rfl (.tmp 35) (.tmp 41) rfl W.heap.size _ v3 _ (0 + (m.take k).length) ([] ++ row nat1 (m.take k)) [c] rfl rfl (by exact O3.out) (by exact XX.out) (by have := E1.out; show 0 + (m.take k).length + 1 ≤ 1000000; omega) (by exact K3.out.size) ?_
                    intro v4 w4 o4 g4
                    have K4 := hid (K3.out.grown g4 (fun k hk => Or.inr (O3.out.lt k hk).1))
                    have O4 := hid o4
                    clear o4 g4
                    go_wp2_with fail
                    refine hK.out _ _ ((K4.out.cell (p := ⟨b, i * 3, none⟩) hbW (fun e => e)).trans HX2.out) (fun hHeld => ?_)
                    clear hK K
                    refine wpAnyH_ready (rs := [15]) (by kernel_rfl) (by simp) ?_
                    refine AllReadyH.cons rfl (fun K hK => ?_) AllReadyH.nil
                    refine step_append_src rfl (.tmp 42) (.tmp 45) rfl W.heap.size W.heap.size v4 _ (0 + (m.take k).length + [c].length) ([] ++ row nat1 (m.take k) ++ row nat1 [c]) (m.drop k) rfl rfl (by exact O4.out) (by exact S2.out.kept K4.out.plain0) (by have := E1.out; have := E2.out; show 0 + (m.take k).length + 1 + (m.drop k).length ≤ 1000000; omega) (by exact K4.out.size) ?_
                    intro v5 w5 o5 g5
                    have K5 := hid (K4.out.grown g5 (fun k hk => Or.inr (O4.out.lt k hk).1))
                    have O5 := hid o5
                    obtain ⟨va5, vc5, rfl⟩ := own_form o5
                    clear o5 g5
                    go_wp2_with fail
                    refine hK.out _ _ ((K5.out.cell (p := ⟨b, i * 3, none⟩) hbW (fun e => e)).trans HX2.out) (fun hHeld => ?_)
                    clear hK K
                    have OF := hid (own_base O5.out SZ.out)
                    have KF := hid (KR.out.trans' K5.out)
                    have EL := hid (show (m.take k ++ c :: m.drop k).length = 0 + (m.take k).length + [c].length + (m.drop k).length by simp <;> omega)
                    have ER := hid (show row nat1 (m.take k ++ c :: m.drop k) = [] ++ row nat1 (m.take k) ++ row nat1 [c] ++ row nat1 (m.drop k) by rw [row_append]; simp [row])
                    generalize 0 + (m.take k).length + [c].length + (m.drop k).length = n5 at *
                    refine ord_take 16 3 (.slice va5 n5 vc5) rfl rfl (by kernel_rfl) (by kernel_rfl) (by kernel_rfl) (fun _ _ _ h => h) (by rfl) (fun wS hS => by (try dsimp only at hS); go_split_ands; go_simp) (by assumption) ?_
                    simp only [Act.put, List.setIfInBounds_toArray]
                    refine wpAnyH_done (by kernel_rfl) ?_ _
                    refine NoPanic.normal ?_
                    clear O5 O4 O3 K5 K4 K3 HX2
                    go_wp2
                    go_roundw
                    case rel => exact ⟨i + 1, m.take k ++ c :: m.drop k, by go_num, by omega, by rw [EL.out, ER.out]; exact OF.out, (ins_perm m c k).trans (by rw [ET.out]; exact (HP.out.cons c).trans (by simpa using (List.perm_append_comm (l₁ := [c]) (l₂ := (L.take i).map fun x => x.1)))), SR.out, KF.out⟩
                    case measure => simp [intOf]; omega
                · go_simp
                  go_wp2_with fail
                  refine hK.out _ _ ((((Kept.refl (fun _ => False) W).alloc _).cell (p := ⟨b, i * 3, none⟩) hbW (fun e => e)).trans HX2.out) (fun hHeld => ?_)
                  clear hK K
                  refine wpAnyH_ready (rs := [0]) (by kernel_rfl) (by simp) ?_
                  refine AllReadyH.cons rfl (fun K hK => ?_) AllReadyH.nil
                  go_simp
                  go_wp2_with fail
                  refine hK.out _ _ (((((Kept.refl (fun _ => False) W).alloc _).alloc _).cell (p := ⟨b, i * 3, none⟩) hbW (fun e => e)).trans HX2.out) (fun hHeld => ?_)
                  clear hK K
                  refine wpAnyH_ready (rs := [4]) (by kernel_rfl) (by simp) ?_
                  refine AllReadyH.cons rfl (fun K hK => ?_) AllReadyH.nil
                  refine step_append_src rfl (.tmp 31) (.tmp 34) rfl W.heap.size W.heap.size _ _ 0 [] (m.take k) rfl rfl (by exact lit0' (W.alloc _) (W.heap.size + 1) (by simp) (by omega)) (by exact S1.out.kept (((Kept.refl (fun _ => False) W).alloc _).alloc _).plain0) (by have := E1.out; omega) (by simp <;> omega) ?_
                  intro v3 w3 o3 g3
                  have K3 := hid ((((Kept.refl (fun _ => False) W).alloc _).alloc _).grown g3 (fun k hk => Or.inr (by cases hk; simp <;> omega)))
                  have XX := hid (((Src.one W c).kept (((Kept.refl (fun _ => False) (W.alloc _)).alloc _).below (by simp) (fun _ e => e.elim))).grown g3 (by simp <;> omega) (by intro hk; have := Option.some.inj hk; simp at this))
                  have O3 := hid o3
                  clear o3 g3
                  go_wp2_with fail
                  refine hK.out _ _ ((K3.out.cell (p := ⟨b, i * 3, none⟩) hbW (fun e => e)).trans HX2.out) (fun hHeld => ?_)
                  clear hK K
                  refine wpAnyH_ready (rs := [11]) (by kernel_rfl) (by simp) ?_
                  refine AllReadyH.cons rfl (fun K hK => ?_) AllReadyH.nil
                  refine step_append_src rfl (.tmp 35) (.tmp 41) rfl W.heap.size _ v3 _ (0 + (m.take k).length) ([] ++ row nat1 (m.take k)) [c] rfl rfl (by exact O3.out) (by exact XX.out) (by have := E1.out; show 0 + (m.take k).length + 1 ≤ 1000000; omega) (by exact K3.out.size) ?_
                  intro v4 w4 o4 g4
                  have K4 := hid (K3.out.grown g4 (fun k hk => Or.inr (O3.out.lt k hk).1))
                  have O4 := hid o4
                  clear o4 g4
                  go_wp2_with fail
                  refine hK.out _ _ ((K4.out.cell (p := ⟨b, i * 3, none⟩) hbW (fun e => e)).trans HX2.out) (fun hHeld => ?_)
                  clear hK K
                  refine wpAnyH_ready (rs := [15]) (by kernel_rfl) (by simp) ?_
                  refine AllReadyH.cons rfl (fun K hK => ?_) AllReadyH.nil
                  refine step_append_src rfl (.tmp 42) (.tmp 45) rfl W.heap.size W.heap.size v4 _ (0 + (m.take k).length + [c].length) ([] ++ row nat1 (m.take k) ++ row nat1 [c]) (m.drop k) rfl rfl (by exact O4.out) (by exact S2.out.kept K4.out.plain0) (by have := E1.out; have := E2.out; show 0 + (m.take k).length + 1 + (m.drop k).length ≤ 1000000; omega) (by exact K4.out.size) ?_
                  intro v5 w5 o5 g5
                  have K5 := hid (K4.out.grown g5 (fun k hk => Or.inr (O4.out.lt k hk).1))
                  have O5 := hid o5
                  obtain ⟨va5, vc5, rfl⟩ := own_form o5
                  clear o5 g5
                  go_wp2_with fail
                  refine hK.out _ _ ((K5.out.cell (p := ⟨b, i * 3, none⟩) hbW (fun e => e)).trans HX2.out) (fun hHeld => ?_)
                  clear hK K
                  have OF := hid (own_base O5.out SZ.out)
                  have KF := hid (KR.out.trans' K5.out)
                  have EL := hid (show (m.take k ++ c :: m.drop k).length = 0 + (m.take k).length + [c].length + (m.drop k).length by simp <;> omega)
                  have ER := hid (show row nat1 (m.take k ++ c :: m.drop k) = [] ++ row nat1 (m.take k) ++ row nat1 [c] ++ row nat1 (m.drop k) by rw [row_append]; simp [row])
                  generalize 0 + (m.take k).length + [c].length + (m.drop k).length = n5 at *
                  refine ord_take 16 3 (.slice va5 n5 vc5) rfl rfl (by kernel_rfl) (by kernel_rfl) (by kernel_rfl) (fun _ _ _ h => h) (by rfl) (fun wS hS => by (try dsimp only at hS); go_split_ands; go_simp) (by assumption) ?_
                  simp only [Act.put, List.setIfInBounds_toArray]
                  refine wpAnyH_done (by kernel_rfl) ?_ _
                  refine NoPanic.normal ?_
                  clear O5 O4 O3 K5 K4 K3 HX2
                  go_wp2
                  go_roundw
                  case rel => exact ⟨i + 1, m.take k ++ c :: m.drop k, by go_num, by omega, by rw [EL.out, ER.out]; exact OF.out, (ins_perm m c k).trans (by rw [ET.out]; exact (HP.out.cons c).trans (by simpa using (List.perm_append_comm (l₁ := [c]) (l₂ := (L.take i).map fun x => x.1)))), SR.out, KF.out⟩
                  case measure => simp [intOf]; omega

    · obtain rfl : i = L.length := by omega
      rw [List.take_of_length_le (Nat.le_refl _)] at HP
      have hge : decide ((L.length : Int) < (L.length : Int)) = false := by simp
      clear ho hp hs kr
      go_wp2
      go_ret
      exact ⟨_, m, rfl, HO.out, HP.out, HS.out, KR.out⟩
end Go.Proofs.YthfdooigljkfiaaGreat
