/- The walk of the reference's Sort: all entries, in order. -/
import Derived.Test.YtjjahhiaelaocaaRs1
import Derived.Deep.RegionHeld3
namespace Go.Proofs.Ytjjahhiaelaocaa
open Go.ChangeShapes Go.WideShapes Go.ChangeAt Go.RowKit

/-- one entry in a new block -/
theorem ents_new (W : World) (g : Nat) (hg : g = W.heap.size) (x : Int × Int) : Ents (W.alloc (.cells #[.int .i64 x.1, .int .i64 x.2] 26)) (some ⟨g, 0, none⟩) [x] := by
  subst hg
  refine Or.inr ⟨_, 0, rfl, by simp, fun i hi => ?_⟩
  match i, hi with
  | 0, _ => simp [ent]

theorem empty_own (W : World) (base g : Nat) (hg : g = W.heap.size) (hb : base ≤ W.heap.size) : (W.alloc (.cells #[] 26)).ownsRow base 26 2 (.slice (some ⟨g, 0, none⟩) 0 0) ([] : List (Int × Int)).length (flat []) := by
  subst hg
  exact World.ownsRow_lit W #[] 0 hb (Nat.zero_le _) rfl

theorem own_drew {w : World} {base : Nat} {e : TypeId} {size : Nat} {v : Value} {n : Nat} {xs : List Value} (h : w.ownsRow base e size v n xs) : w.drew.ownsRow base e size v n xs := h
theorem ents_drew {w : World} {a : Option Addr} {l : List (Int × Int)} (h : Ents w a l) : Ents w.drew a l := h

/-- what is owned from a later block on is owned from an earlier one on -/
theorem own_base {w : World} {base base' : Nat} {e : TypeId} {size : Nat} {v : Value} {n : Nat} {xs : List Value} (h : w.ownsRow base e size v n xs) (hb : base' ≤ base) : w.ownsRow base' e size v n xs := by
  obtain ⟨h1, h2 | ⟨g, cap, cur, h3, h4, r⟩⟩ := h
  · exact ⟨h1, Or.inl h2⟩
  · exact ⟨h1, Or.inr ⟨g, cap, cur, h3, Nat.le_trans hb h4, r⟩⟩

set_option maxHeartbeats 4000000 in
theorem refSort_any (b off cap : Nat) (l : List (Int × Int)) (w : World) (hb : b < w.heap.size) (hl : l.length ≤ 1000) (hr : Row w b off l) :
    Calls Try.prog 30 #[.slice (some ⟨b, off, none⟩) l.length cap] w fun e w' => ∃ v m, e = .returned v ∧ m.Perm l ∧ SortedOn m 0 l.length ∧ w'.ownsRow w.heap.size 26 2 v m.length (flat m) ∧ Below w.heap.size w w' := by
  go_enter Try.func30, Try.ntmps30
  go_wp2
  go_loopw [3, 4] (fun ov iv wr => ∃ (i : Nat) (m : List (Int × Int)), iv = .int .i64 i ∧ i ≤ l.length ∧ m.length = i ∧ m.Perm (l.take i) ∧ SortedOn m 0 i ∧ wr.ownsRow w.heap.size 26 2 ov m.length (flat m) ∧ Below w.heap.size w wr) (fun _ i _ => l.length - (intOf i).toNat)
  case atStart => exact ⟨0, [], rfl, Nat.zero_le _, rfl, by simp, sortedOn_short (by omega), ⟨rfl, Or.inl ⟨rfl, rfl⟩⟩, Below.refl _ _⟩
  case round =>
    obtain ⟨i, m, rfl, hi, hmi, hp, hs, hown, hbel⟩ := hrel
    have HP := hid hp
    have HS := hid hs
    have HO := hid hown
    have BL := hid hbel
    have MI := hid hmi
    by_cases hlt : i < l.length
    · have hr' := hr.below hb hbel
      have hbr : b < wr.heap.size := Nat.lt_of_lt_of_le hb hbel.size
      obtain ⟨h1, h2⟩ := hr' i hlt
      generalize hx : (ent l i) = x at h1 h2
      have HX := hid hx
      have RW := hid hr
      clear hr hr' hx hp hs hown hbel hmi
      obtain ⟨_, ⟨rfl, h0⟩ | ⟨g, cap', cur, rfl, g1, g2, g3, g4, g5, g6⟩⟩ := HO.out
      · obtain rfl : m = [] := by cases m <;> simp_all
        go_wp2
        go_loopw [5] (fun kv wr' => kv = .int .i64 0 ∧ ∃ n, wr' = wr.drewN n) (fun _ _ => 0)
        case atStart => exact ⟨rfl, 0, rfl⟩
        case round =>
          obtain ⟨rfl, n, rfl⟩ := hrel
          go_wp2_with fail
          go_quiet (fail)
          go_wp2
          have hW : Below w.heap.size w ((wr.drewN n).drewN nq) := BL.out.trans ((below_drewN _ _).trans (below_drewN _ _))
          have k1 : ((wr.drewN n).drewN nq).cell? ⟨b, off + i * 2, none⟩ = some (.int .i64 x.1) := h1
          have k2 : ((wr.drewN n).drewN nq).cell? ⟨b, off + i * 2 + 1, none⟩ = some (.int .i64 x.2) := h2
          have hbW : b < ((wr.drewN n).drewN nq).heap.size := hbr
          generalize ((wr.drewN n).drewN nq) = W at hW k1 k2 hbW ⊢
          clear h1 h2 hbr
          have hsz := hW.size
          have hbW1 : b < W.heap.size + 1 := by omega
          go_region_held3 (fun w' => w'.cell? ⟨b, off + i * 2, none⟩ = some (.int .i64 x.1) ∧ w'.cell? ⟨b, off + i * 2 + 1, none⟩ = some (.int .i64 x.2)) (first | exact ⟨q1, q2⟩ | simp [go_sem, *])
            (first
              | (refine step_append_ents rfl (.tmp 34) (.tmp 39) rfl W.heap.size _ [] [x] _ 1 1 rfl rfl rfl (by first | exact own_drew (own_alloc (empty_own W W.heap.size _ rfl (Nat.le_refl _)) _) | exact own_drew (empty_own (W.alloc _) W.heap.size (W.heap.size + 1) (by simp) (by simp))) (by first | exact ents_drew (ents_new (W.alloc _) _ (by simp) x) | exact ents_drew ((ents_new W _ rfl x).below (Nat.le_refl _) (below_a1 (Below.refl _ _) (Nat.le_refl _) _))) (fun h => by cases h) (by simp) (by simp <;> omega) ?_; intro v' w' ho' hg' _; have hB := (below_a2 (Below.refl W.heap.size W) (Nat.le_refl _) _ _).drew.trans hg'; have q1 := (hB.cell (p := ⟨b, off + i * 2, none⟩) hbW).trans k1; have q2 := (hB.cell (p := ⟨b, off + i * 2 + 1, none⟩) hbW).trans k2; clear hg')
              | (refine step_append_ents rfl (.tmp 40) (.tmp 43) rfl W.heap.size v' ([] ++ [x]) [] none 0 0 rfl rfl rfl (by exact ho') (Or.inl rfl) (fun _ => rfl) (by simp) (by exact hB.size) ?_; intro v2 w2 ho2 hg2 _; have hB := hB.trans hg2; have q1 := (hB.cell (p := ⟨b, off + i * 2, none⟩) hbW).trans k1; have q2 := (hB.cell (p := ⟨b, off + i * 2 + 1, none⟩) hbW).trans k2; clear hg2 ho'))
          all_goals
            rename_i hH
            clear hH q1 q2 k1 k2
            have BL2 := hid (hW.trans (hB.mono hsz))
            have HO2 := hid (own_base ho2 hsz)
            clear hB ho2 hW
            go_wp2
            go_roundw
            case rel =>
              refine ⟨i + 1, put1 [] x 0, by go_num, by omega, ?_, put1_step 0 HP.out hlt HX.out, ?_, HO2.out, BL2.out⟩
              · have := MI.out; simp at this; subst this; rfl
              · have := MI.out; simp at this; subst this; exact sortedOn_short (by omega)
            case measure => simp [intOf]; omega
      · obtain ⟨wo, rfl⟩ : ∃ wo, wo = wr := ⟨wr, rfl⟩
        have ow := own_of_block g2 g6
        have OW := hid ow
        have hmi : m.length = i := MI.out
        have hmc : m.length ≤ cap' := g3
        have hgb : w.heap.size ≤ g := g1
        clear g1 g2 g4 g5 g6 ow g3 hmi
        go_wp2
        go_loopw [5] (fun kv wr' => ∃ k : Nat, kv = .int .i64 k ∧ k ≤ m.length ∧ (∀ j, k ≤ j → j < m.length → befE x (ent m j) = true) ∧ Below wo.heap.size wo wr') (fun k _ => (intOf k).toNat)
        case atStart => exact ⟨m.length, rfl, Nat.le_refl _, fun j h1 h2 => by omega, Below.refl _ _⟩
        case round =>
          obtain ⟨k, rfl, hk, hall, hbk⟩ := hrel
          have HA := hid hall
          have OW' := hid (OW.out.below (B := wo.heap.size) OW.out.lt hbk)
          have k1 := (hbk.cell (p := ⟨b, off + i * 2, none⟩) hbr).trans h1
          have k2 := (hbk.cell (p := ⟨b, off + i * 2 + 1, none⟩) hbr).trans h2
          have hbr' : b < wr.heap.size := Nat.lt_of_lt_of_le hbr hbk.size
          have hgr' := OW'.out.lt
          clear hall
          by_cases hk0 : 0 < k
          · obtain ⟨j, hkj⟩ : ∃ j, k = j + 1 := ⟨k - 1, by omega⟩
            have hik : (k : Int) - 1 = (j : Int) := by omega
            have hwj : IntKind.i64.wrap (j : Int) = j := IntWalk.i64_in _ (by have := MI.out; omega)
            have hjm : j < m.length := by omega
            have hml : m.length ≤ 1000 := by have := MI.out; omega
            have KJ := hid hkj
            obtain ⟨k3, k4⟩ := OW'.out.row j hjm
            rw [Nat.zero_add] at k3 k4
            generalize hy : ent m j = y at k3 k4
            have HY := hid hy
            clear hkj hy
            have hbr1 : b < wr.heap.size + 1 := by omega
            have hgr1 : g < wr.heap.size + 1 := by omega
            go_wp2_with fail
            go_region_held3 (fun w' => w'.cell? ⟨b, off + i * 2, none⟩ = some (.int .i64 x.1) ∧ w'.cell? ⟨b, off + i * 2 + 1, none⟩ = some (.int .i64 x.2) ∧ w'.cell? ⟨g, j * 2, none⟩ = some (.int .i64 y.1) ∧ w'.cell? ⟨g, j * 2 + 1, none⟩ = some (.int .i64 y.2)) (simp [go_sem, hbr', hbr1, hgr', hgr1, k1, k2, k3, k4])
              (first | (go_at_call 18; refine (refBefore_any _ _ _ _ _).mono ?_; rintro e w' ⟨rfl, o1, o2, rfl⟩))
            rename_i hH
            clear hH k3 k4 hgr1 hbr1
            have hbl : Below wo.heap.size wo (((wr.alloc (.cells o1 26)).alloc (.cells o2 26)).drew) := (below_a2 hbk (Nat.le_refl _) _ _).drew
            clear hbk OW' k1 k2 hbr' hgr'
            generalize ((wr.alloc (.cells o1 26)).alloc (.cells o2 26)).drew = W at hbl ⊢
            generalize hb2 : bef x.1 x.2 y.1 y.2 = r
            have HB := hid hb2
            clear hb2
            cases r
            · have hW : Below w.heap.size w W := BL.out.trans (hbl.mono BL.out.size)
              have k1 := (hbl.cell (p := ⟨b, off + i * 2, none⟩) hbr).trans h1
              have k2 := (hbl.cell (p := ⟨b, off + i * 2 + 1, none⟩) hbr).trans h2
              have hbW : b < W.heap.size := Nat.lt_of_lt_of_le hbr hbl.size
              have ow2 := OW.out.below (B := wo.heap.size) OW.out.lt hbl
              have hEt : Hid (Ents W (some ⟨g, 0, none⟩) (m.take k)) := Or.inr ⟨g, 0, rfl, ow2.lt, ow2.row.take k⟩
              have hEd : Hid (Ents W (if cap' = k then some ⟨g, 0, none⟩ else some ⟨g, k * 2, none⟩) (m.drop k)) := by
                split
                · exact Or.inl (List.drop_eq_nil_iff.2 (by omega))
                · have := ow2.row.drop k
                  rw [Nat.zero_add] at this
                  exact Or.inr ⟨g, k * 2, rfl, ow2.lt, this⟩
              clear h1 h2 hbr hbl ow2
              have hkc1 : (k : Int) ≤ (m.length : Int) := by omega
              have hkc2 : (k : Int) ≤ (cap' : Int) := by omega
              have hsz := hW.size
              have hbW1 : b < W.heap.size + 1 := by omega
              have hml : m.length ≤ 1000 := by have := MI.out; omega
              go_wp2
              go_region_held3 (fun w' => w'.cell? ⟨b, off + i * 2, none⟩ = some (.int .i64 x.1) ∧ w'.cell? ⟨b, off + i * 2 + 1, none⟩ = some (.int .i64 x.2)) (first | exact ⟨q1, q2⟩ | simp [go_sem, *])
                (first
                  | (refine step_append_ents rfl (.tmp 30) (.tmp 33) rfl W.heap.size (.slice (some ⟨W.heap.size, 0, none⟩) 0 0) [] (m.take k) (some ⟨g, 0, none⟩) cap' k rfl rfl (by simp <;> omega) (by exact own_drew (own_alloc (empty_own W W.heap.size _ rfl (Nat.le_refl _)) _)) (by exact ents_drew (hEt.out.below (Nat.le_refl _) (below_a2 (Below.refl _ W) (Nat.le_refl _) _ _))) (fun h => by cases h) (by simp <;> omega) (by simp <;> omega) ?_; intro v1 w1 ho1 hB1 hg1; have hX : Hid (Ents w1 (some ⟨W.heap.size + 1, 0, none⟩) [x]) := (ents_drew (ents_new (W.alloc _) (W.heap.size + 1) (by simp) x)).grown hg1 (fun b' off' e f => by cases e; have f' : some (W.heap.size + 1) = some W.heap.size := f; simp at f'); have hB := (below_a2 (Below.refl W.heap.size W) (Nat.le_refl _) _ _).drew.trans hB1; have q1 := (hB.cell (p := ⟨b, off + i * 2, none⟩) hbW).trans k1; have q2 := (hB.cell (p := ⟨b, off + i * 2 + 1, none⟩) hbW).trans k2; have hbw1 : b < w1.heap.size := Nat.lt_of_lt_of_le hbW hB.size; clear hg1 hB1)
                  | (refine step_append_ents rfl (.tmp 30) (.tmp 33) rfl W.heap.size (.slice (some ⟨W.heap.size + 1, 0, none⟩) 0 0) [] (m.take k) (some ⟨g, 0, none⟩) cap' k rfl rfl (by simp <;> omega) (by exact own_drew (empty_own (W.alloc _) W.heap.size (W.heap.size + 1) (by simp) (by simp))) (by exact ents_drew (hEt.out.below (Nat.le_refl _) (below_a2 (Below.refl _ W) (Nat.le_refl _) _ _))) (fun h => by cases h) (by simp <;> omega) (by simp <;> omega) ?_; intro v1 w1 ho1 hB1 hg1; have hX : Hid (Ents w1 (some ⟨W.heap.size, 0, none⟩) [x]) := (ents_drew ((ents_new W W.heap.size rfl x).below (Nat.le_refl _) (below_a1 (Below.refl _ _) (Nat.le_refl _) _))).grown hg1 (fun b' off' e f => by cases e; have f' : some W.heap.size = some (W.heap.size + 1) := f; simp at f'); have hB := (below_a2 (Below.refl W.heap.size W) (Nat.le_refl _) _ _).drew.trans hB1; have q1 := (hB.cell (p := ⟨b, off + i * 2, none⟩) hbW).trans k1; have q2 := (hB.cell (p := ⟨b, off + i * 2 + 1, none⟩) hbW).trans k2; have hbw1 : b < w1.heap.size := Nat.lt_of_lt_of_le hbW hB.size; clear hg1 hB1)
                  | (refine step_append_ents rfl (.tmp 30) (.tmp 33) rfl W.heap.size (.slice (some ⟨W.heap.size, 0, none⟩) 0 0) [] (m.take k) (some ⟨g, 0, none⟩) cap' k rfl rfl (by simp <;> omega) (by exact own_drew (empty_own W W.heap.size _ rfl (Nat.le_refl _))) (by exact ents_drew (hEt.out.below (Nat.le_refl _) (below_a1 (Below.refl _ W) (Nat.le_refl _) _))) (fun h => by cases h) (by simp <;> omega) (by simp <;> omega) ?_; intro v1 w1 ho1 hB1 hg1; have hX : Hid True := trivial; have hB := (below_a1 (Below.refl W.heap.size W) (Nat.le_refl _) _).drew.trans hB1; have q1 := (hB.cell (p := ⟨b, off + i * 2, none⟩) hbW).trans k1; have q2 := (hB.cell (p := ⟨b, off + i * 2 + 1, none⟩) hbW).trans k2; have hbw1 : b < w1.heap.size := Nat.lt_of_lt_of_le hbW hB.size; clear hg1 hB1)
                  | (refine step_append_ents rfl (.tmp 34) (.tmp 39) rfl W.heap.size v1 ([] ++ m.take k) [x] _ 1 1 rfl rfl rfl (by first | exact ho1 | exact own_alloc ho1 _) (by first | exact hX.out | exact ents_new w1 _ rfl x) (fun h => by cases h) (by simp <;> omega) (by have := hB.size; first | omega | (simp <;> omega)) ?_; intro v2 w2 ho2 hB2 _; have hC : Below W.heap.size W w2 := (by first | exact hB.trans hB2 | exact (below_a1 hB (Nat.le_refl _) _).trans hB2); have q1 := (hC.cell (p := ⟨b, off + i * 2, none⟩) hbW).trans k1; have q2 := (hC.cell (p := ⟨b, off + i * 2 + 1, none⟩) hbW).trans k2; clear hB2)
                  | (refine step_append_ents rfl (.tmp 40) (.tmp 43) rfl W.heap.size v2 ([] ++ m.take k ++ [x]) (m.drop k) _ _ _ rfl rfl (by simp) (by exact ho2) (by exact hEd.out.below (Nat.le_refl _) hC) (fun h => by split at h <;> cases h) (by simp <;> omega) (by exact hC.size) ?_; intro v3 w3 ho3 hB3 _; have hD := hC.trans hB3; have q1 := (hD.cell (p := ⟨b, off + i * 2, none⟩) hbW).trans k1; have q2 := (hD.cell (p := ⟨b, off + i * 2 + 1, none⟩) hbW).trans k2; clear hB3))
              all_goals
                rename_i hH
                clear hH q1 q2 k1 k2
                have BL2 := hid (hW.trans (hD.mono hsz))
                have HO2 := hid (own_base ho3 hsz)
                clear hD ho3 hW hB hC ho1 ho2
                go_wp2
                go_roundw
                case rel =>
                  have hmi := MI.out
                  refine ⟨i + 1, put1 m x k, by go_num, by omega, by rw [put1_length hk, hmi], put1_step k HP.out hlt HX.out, ?_, HO2.out, BL2.out⟩
                  have hss := HS.out
                  rw [← hmi] at hss ⊢
                  exact put1_sorted hk hss HA.out (Or.inr (by rw [show k - 1 = j by have := KJ.out; omega, HY.out]; exact HB.out))
                case measure => simp [intOf]; omega
            · go_wp2
              go_roundw
              case rel =>
                refine ⟨j, rfl, by have := KJ.out; omega, fun q h1 h2 => ?_, hbl⟩
                by_cases e : k ≤ q
                · exact HA.out q e h2
                · have : q = j := by have := KJ.out; omega
                  rw [this, HY.out]; exact HB.out
              case measure => have := KJ.out; simp [intOf]; omega
          · have hkd : decide ((0 : Int) < (k : Int)) = false := by simp; omega
            clear k1 k2 hbr' hgr' OW'
            go_wp2_with fail
            go_quiet (fail)
            have hbl : Below wo.heap.size wo (wr.drewN nq) := hbk.trans (below_drewN _ _)
            clear hbk
            generalize (wr.drewN nq) = W at hbl ⊢
            have hW : Below w.heap.size w W := BL.out.trans (hbl.mono BL.out.size)
            have k1 := (hbl.cell (p := ⟨b, off + i * 2, none⟩) hbr).trans h1
            have k2 := (hbl.cell (p := ⟨b, off + i * 2 + 1, none⟩) hbr).trans h2
            have hbW : b < W.heap.size := Nat.lt_of_lt_of_le hbr hbl.size
            have ow2 := OW.out.below (B := wo.heap.size) OW.out.lt hbl
            have hEt : Hid (Ents W (some ⟨g, 0, none⟩) (m.take k)) := Or.inr ⟨g, 0, rfl, ow2.lt, ow2.row.take k⟩
            have hEd : Hid (Ents W (if cap' = k then some ⟨g, 0, none⟩ else some ⟨g, k * 2, none⟩) (m.drop k)) := by
              split
              · exact Or.inl (List.drop_eq_nil_iff.2 (by omega))
              · have := ow2.row.drop k
                rw [Nat.zero_add] at this
                exact Or.inr ⟨g, k * 2, rfl, ow2.lt, this⟩
            clear h1 h2 hbr hbl ow2
            have hkc1 : (k : Int) ≤ (m.length : Int) := by omega
            have hkc2 : (k : Int) ≤ (cap' : Int) := by omega
            have hsz := hW.size
            have hbW1 : b < W.heap.size + 1 := by omega
            have hml : m.length ≤ 1000 := by have := MI.out; omega
            go_wp2
            go_region_held3 (fun w' => w'.cell? ⟨b, off + i * 2, none⟩ = some (.int .i64 x.1) ∧ w'.cell? ⟨b, off + i * 2 + 1, none⟩ = some (.int .i64 x.2)) (first | exact ⟨q1, q2⟩ | simp [go_sem, *])
              (first
                | (refine step_append_ents rfl (.tmp 30) (.tmp 33) rfl W.heap.size (.slice (some ⟨W.heap.size, 0, none⟩) 0 0) [] (m.take k) (some ⟨g, 0, none⟩) cap' k rfl rfl (by simp <;> omega) (by exact own_drew (own_alloc (empty_own W W.heap.size _ rfl (Nat.le_refl _)) _)) (by exact ents_drew (hEt.out.below (Nat.le_refl _) (below_a2 (Below.refl _ W) (Nat.le_refl _) _ _))) (fun h => by cases h) (by simp <;> omega) (by simp <;> omega) ?_; intro v1 w1 ho1 hB1 hg1; have hX : Hid (Ents w1 (some ⟨W.heap.size + 1, 0, none⟩) [x]) := (ents_drew (ents_new (W.alloc _) (W.heap.size + 1) (by simp) x)).grown hg1 (fun b' off' e f => by cases e; have f' : some (W.heap.size + 1) = some W.heap.size := f; simp at f'); have hB := (below_a2 (Below.refl W.heap.size W) (Nat.le_refl _) _ _).drew.trans hB1; have q1 := (hB.cell (p := ⟨b, off + i * 2, none⟩) hbW).trans k1; have q2 := (hB.cell (p := ⟨b, off + i * 2 + 1, none⟩) hbW).trans k2; have hbw1 : b < w1.heap.size := Nat.lt_of_lt_of_le hbW hB.size; clear hg1 hB1)
                | (refine step_append_ents rfl (.tmp 30) (.tmp 33) rfl W.heap.size (.slice (some ⟨W.heap.size + 1, 0, none⟩) 0 0) [] (m.take k) (some ⟨g, 0, none⟩) cap' k rfl rfl (by simp <;> omega) (by exact own_drew (empty_own (W.alloc _) W.heap.size (W.heap.size + 1) (by simp) (by simp))) (by exact ents_drew (hEt.out.below (Nat.le_refl _) (below_a2 (Below.refl _ W) (Nat.le_refl _) _ _))) (fun h => by cases h) (by simp <;> omega) (by simp <;> omega) ?_; intro v1 w1 ho1 hB1 hg1; have hX : Hid (Ents w1 (some ⟨W.heap.size, 0, none⟩) [x]) := (ents_drew ((ents_new W W.heap.size rfl x).below (Nat.le_refl _) (below_a1 (Below.refl _ _) (Nat.le_refl _) _))).grown hg1 (fun b' off' e f => by cases e; have f' : some W.heap.size = some (W.heap.size + 1) := f; simp at f'); have hB := (below_a2 (Below.refl W.heap.size W) (Nat.le_refl _) _ _).drew.trans hB1; have q1 := (hB.cell (p := ⟨b, off + i * 2, none⟩) hbW).trans k1; have q2 := (hB.cell (p := ⟨b, off + i * 2 + 1, none⟩) hbW).trans k2; have hbw1 : b < w1.heap.size := Nat.lt_of_lt_of_le hbW hB.size; clear hg1 hB1)
                | (refine step_append_ents rfl (.tmp 30) (.tmp 33) rfl W.heap.size (.slice (some ⟨W.heap.size, 0, none⟩) 0 0) [] (m.take k) (some ⟨g, 0, none⟩) cap' k rfl rfl (by simp <;> omega) (by exact own_drew (empty_own W W.heap.size _ rfl (Nat.le_refl _))) (by exact ents_drew (hEt.out.below (Nat.le_refl _) (below_a1 (Below.refl _ W) (Nat.le_refl _) _))) (fun h => by cases h) (by simp <;> omega) (by simp <;> omega) ?_; intro v1 w1 ho1 hB1 hg1; have hX : Hid True := trivial; have hB := (below_a1 (Below.refl W.heap.size W) (Nat.le_refl _) _).drew.trans hB1; have q1 := (hB.cell (p := ⟨b, off + i * 2, none⟩) hbW).trans k1; have q2 := (hB.cell (p := ⟨b, off + i * 2 + 1, none⟩) hbW).trans k2; have hbw1 : b < w1.heap.size := Nat.lt_of_lt_of_le hbW hB.size; clear hg1 hB1)
                | (refine step_append_ents rfl (.tmp 34) (.tmp 39) rfl W.heap.size v1 ([] ++ m.take k) [x] _ 1 1 rfl rfl rfl (by first | exact ho1 | exact own_alloc ho1 _) (by first | exact hX.out | exact ents_new w1 _ rfl x) (fun h => by cases h) (by simp <;> omega) (by have := hB.size; first | omega | (simp <;> omega)) ?_; intro v2 w2 ho2 hB2 _; have hC : Below W.heap.size W w2 := (by first | exact hB.trans hB2 | exact (below_a1 hB (Nat.le_refl _) _).trans hB2); have q1 := (hC.cell (p := ⟨b, off + i * 2, none⟩) hbW).trans k1; have q2 := (hC.cell (p := ⟨b, off + i * 2 + 1, none⟩) hbW).trans k2; clear hB2)
                | (refine step_append_ents rfl (.tmp 40) (.tmp 43) rfl W.heap.size v2 ([] ++ m.take k ++ [x]) (m.drop k) _ _ _ rfl rfl (by simp) (by exact ho2) (by exact hEd.out.below (Nat.le_refl _) hC) (fun h => by split at h <;> cases h) (by simp <;> omega) (by exact hC.size) ?_; intro v3 w3 ho3 hB3 _; have hD := hC.trans hB3; have q1 := (hD.cell (p := ⟨b, off + i * 2, none⟩) hbW).trans k1; have q2 := (hD.cell (p := ⟨b, off + i * 2 + 1, none⟩) hbW).trans k2; clear hB3))
            all_goals
              rename_i hH
              clear hH q1 q2 k1 k2
              have BL2 := hid (hW.trans (hD.mono hsz))
              have HO2 := hid (own_base ho3 hsz)
              clear hD ho3 hW hB hC ho1 ho2
              go_wp2
              go_roundw
              case rel =>
                have hmi := MI.out
                refine ⟨i + 1, put1 m x k, by go_num, by omega, by rw [put1_length hk, hmi], put1_step k HP.out hlt HX.out, ?_, HO2.out, BL2.out⟩
                have hss := HS.out
                rw [← hmi] at hss ⊢
                exact put1_sorted hk hss HA.out (Or.inl (by omega))
              case measure => simp [intOf]; omega
    · clear hown hbel
      go_wp2
      go_ret
      have e : i = l.length := by omega
      refine ⟨_, m, rfl, ?_, ?_, HO.out, BL.out⟩
      · have := HP.out; rw [e, List.take_length] at this; exact this
      · have := HS.out; rw [e] at this; exact this
end Go.Proofs.Ytjjahhiaelaocaa
