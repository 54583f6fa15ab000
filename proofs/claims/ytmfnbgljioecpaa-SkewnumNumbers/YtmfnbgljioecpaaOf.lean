/- The walks of the library's Reverse, of Of, of the reference's, and of Joined. -/
import Derived.Test.YtmfnbgljioecpaaIc
import Derived.Test.YtmfnbgljioecpaaRc
import Derived.Test.YtmfnbgljioecpaaRv
namespace Go.Proofs.Ytmfnbgljioecpaa
open Go.ChangeShapes Go.WideShapes Go.ChangeAt Go.RowKit

/-- the skew number of a value, as it is told -/
def ofF (n : Int) : List Int := if n < 1 ∨ 268435456 < n then [] else tn n.toNat


theorem vl_mem : ∀ {A : List Int} {x : Int}, x ∈ A → cn x.toNat ≤ vl A
  | a :: t, x, h => by
    simp only [vl]
    have := cn_pos a.toNat
    have h2 := vl_nonneg t
    rcases List.mem_cons.1 h with rfl | h
    · omega
    · have := vl_mem h; omega
theorem pick {A : List Int} (h : R A) (k : Nat) (hk : ∀ x ∈ A, x < (k : Int) + 1) (hv : cn k ≤ vl A) : ∃ B, A = B ++ [(k : Int)] := by
  rcases List.eq_nil_or_concat A with rfl | ⟨B, a, rfl⟩
  · have := cn_pos k; simp only [vl] at hv; omega
  · simp only [List.concat_eq_append] at *
    by_cases c : a < (k : Int)
    · have := vl_lt k (B ++ [a]) h fun x hx => by
        rcases R_last h with e | e
        · rw [e] at hx; simp at hx; omega
        · rcases List.mem_append.1 hx with hx | hx
          · have := e x hx; omega
          · simp at hx; omega
      omega
    · have := hk a (by simp)
      exact ⟨B, by rw [show a = (k : Int) by omega]⟩
theorem stop {A : List Int} (k : Nat) (hk : ∀ x ∈ A, x < (k : Int) + 1) (hv : ¬ cn k ≤ vl A) : ∀ x ∈ A, x < (k : Int) := fun x hx => by
  by_cases c : x < (k : Int)
  · exact c
  · have h1 := hk x hx
    have h2 := vl_mem hx
    rw [show x.toNat = k by omega] at h2
    omega
theorem none_left {A : List Int} (h : ∀ x ∈ A, 0 ≤ x) (h2 : ∀ x ∈ A, x < 0) : A = [] := by
  cases A with
  | nil => rfl
  | cons a t => have := h a (by simp); have := h2 a (by simp); omega
theorem own_lit0 (w : World) (B : Nat) (hB : B ≤ w.heap.size) (l0 : List Int) (hl : l0.length ≤ 1000) (cs : Array Value) (hcs : cs = (row int1 l0).toArray) : Own (w.alloc (.cells cs 3)) B (.slice (some ⟨w.heap.size, 0, none⟩) l0.length l0.length) l0 := by
  subst hcs
  exact World.ownsRow_lit (base := B) (e := 3) (size := 1) w (row int1 l0).toArray l0.length hB (by unfold maxLen; omega) (by simp [int1_row_len])

set_option maxHeartbeats 2000000 in
theorem refOf_any (n : Int) (w : World) : Calls Try.prog 9 #[.int .i64 n] w fun e w' => ∃ v', e = .returned v' ∧ Own w' w.heap.size v' (ofF n) ∧ Below w.heap.size w w' := by
  by_cases q1 : n < 1
  · have q1' : decide (n < 1) = true := by simp [q1]
    have HE : Hid (ofF n = []) := hid (if_pos (Or.inl q1))
    go_enter Try.func9, Try.ntmps9
    go_wp2
    go_ret
    exact ⟨_, rfl, by rw [HE.out]; exact Own.nil _ _, Below.refl _ _⟩
  by_cases q2 : 268435456 < n
  · have q1' : decide (n < 1) = false := by simp [q1]
    have q2' : decide (268435456 < n) = true := by simp [q2]
    have HE : Hid (ofF n = []) := hid (if_pos (Or.inr q2))
    go_enter Try.func9, Try.ntmps9
    go_wp2
    go_ret
    exact ⟨_, rfl, by rw [HE.out]; exact Own.nil _ _, Below.refl _ _⟩
  obtain ⟨m, hm⟩ : ∃ m : Nat, n = m := ⟨n.toNat, by omega⟩
  subst hm
  have HE : Hid (ofF m = tn m) := hid (by unfold ofF; rw [if_neg (by omega)]; rfl)
  have q1' : decide ((m : Int) < 1) = false := by simp; omega
  have q2' : decide (268435456 < (m : Int)) = false := by simp; omega
  have HT := hid (tn_right m (by omega))
  generalize tn m = T at HT HE
  go_enter Try.func9, Try.ntmps9
  go_wp2
  go_loopw [0, 3, 4] (fun nv lv kv wr => ∃ (A D : List Int) (k : Int), T = A ++ D ∧ nv = .int .i64 (vl A) ∧ kv = .int .i64 k ∧ -1 ≤ k ∧ k ≤ 28 ∧ (∀ x ∈ A, x < k + 1) ∧ Own wr w.heap.size lv D ∧ Below w.heap.size w wr) (fun _ _ kv _ => (intOf kv + 1).toNat)
  case atStart => exact ⟨T, [], 28, by simp, by rw [HT.out.2], rfl, by omega, by omega, fun x hx => by have := (HT.out.1.1 x hx).2; omega, Own.nil _ _, Below.refl _ _⟩
  case round =>
    obtain ⟨A, D, k, hT, rfl, rfl, hk1, hk2, hA, ho, hb⟩ := hrel
    have HA0 := hid hA
    have HT0 := hid hT
    have HO0 := hid ho
    have HB0 := hid hb
    clear hA hT ho hb
    by_cases h0 : 0 ≤ k
    · obtain ⟨j, rfl⟩ : ∃ j : Nat, k = j := ⟨k.toNat, by omega⟩
      have hcw := cn_wrap j (by omega)
      go_wp2
      go_loopw [0, 3] (fun nv lv wr => ∃ (A D : List Int), Hid (T = A ++ D) ∧ nv = .int .i64 (vl A) ∧ Hid (∀ x ∈ A, x < (j : Int) + 1) ∧ Hid (Own wr w.heap.size lv D) ∧ Hid (Below w.heap.size w wr)) (fun nv _ _ => (intOf nv).toNat)
      case atStart => exact ⟨A, D, HT0, rfl, HA0, HO0, HB0⟩
      case round =>
        clear HT0 HA0 HO0 HB0
        obtain ⟨A, D, hT, rfl, hA, ho, hb⟩ := hrel
        have hRA : Hid (R A) := hid (R_pre (by rw [← hT.out]; exact HT.out.1))
        have b0 := vl_nonneg A
        have b1 : vl A ≤ 268435456 := by
          have h1 := HT.out.2
          rw [hT.out, vl_append] at h1
          have := vl_nonneg D
          omega
        have bc := cn_top j (by omega)
        have bc0 := cn_pos j
        have DL : Hid (D.length ≤ 30) := hid (by
          have := R_len HT.out.1
          rw [hT.out, List.length_append] at this
          omega)
        by_cases hge : cn j ≤ vl A
        · obtain ⟨B, hAB⟩ := pick hRA.out j hA.out hge
          have hvB : vl A - cn j = vl B := by rw [hAB, vl_append]; simp [vl]
          have HAB := hid hAB
          obtain ⟨s, hs⟩ : ∃ s, s = vl A := ⟨_, rfl⟩
          rw [← hs] at b0 b1 hge hvB ⊢
          clear hAB hs
          go_wp2_with (at_builtin; refine wpList_append_lst rfl (.tmp 23) (.tmp 24) rfl w.heap.size _ _ 1 (row int1 [(j : Int)]) D rfl rfl (by exact own_lit0 _ w.heap.size hb.out.size [(j : Int)] (by simp) _ rfl) (by exact ho.out.lst.below ((Below.refl _ _).alloc (Nat.le_refl _) _)) (by have := DL.out; omega) (by have := hb.out.size; simp; omega) ?_; intro v1 w1 o1 g1; have B1 := hid (below_grown (w0 := w) (own_lit0 _ w.heap.size hb.out.size [(j : Int)] (by simp) _ rfl) g1 (hb.out.alloc hb.out.size _)); have O1 := hid o1; clear o1 g1)
          go_roundw
          case rel => exact ⟨B, (j : Int) :: D, hid (by rw [hT.out, HAB.out]; simp), (by first | rfl | rw [hvB]), hid (fun x hx => hA.out x (by rw [HAB.out]; simp [hx])), hid (by have := O1.out; unfold Own; rw [show (((j : Int) :: D).length) = 1 + D.length by simp; omega, show row int1 ((j : Int) :: D) = row int1 [(j : Int)] ++ row int1 D from row_append [(j : Int)] D]; exact this), B1⟩
          case measure => simp [intOf] <;> omega
        · have HS := hid (stop j hA.out hge)
          obtain ⟨s, hs⟩ : ∃ s, s = vl A := ⟨_, rfl⟩
          rw [← hs] at b0 b1 hge ⊢
          have HS2 := hid hs
          clear hs
          go_wp2
          go_roundw
          case rel => exact ⟨A, D, (j : Int) - 1, hT.out, by rw [HS2.out], by go_num, by omega, by omega, fun x hx => by have := HS.out x hx; omega, ho.out, hb.out⟩
          case measure => simp [intOf] <;> omega
    · have HE0 := none_left (A := A) (fun x hx => (HT.out.1.1 x (by rw [HT0.out]; simp [hx])).1) (fun x hx => by have := HA0.out x hx; omega)
      have HD : Hid (T = D) := hid (by rw [HT0.out, HE0]; rfl)
      clear HE0
      go_wp2
      go_ret
      exact ⟨_, rfl, by rw [HE.out, HD.out]; exact HO0.out, HB0.out⟩

set_option maxHeartbeats 2000000 in
theorem of_any (n : Int) (w : World) : Calls Try.prog 11 #[.int .i64 n] w fun e w' => ∃ v', e = .returned v' ∧ Own w' w.heap.size v' (ofF n) ∧ Below w.heap.size w w' := by
  by_cases q1 : n < 1
  · have q1' : decide (n < 1) = true := by simp [q1]
    have HE : Hid (ofF n = []) := hid (if_pos (Or.inl q1))
    go_enter Try.func11, Try.ntmps11
    go_wp2
    go_ret
    exact ⟨_, rfl, by rw [HE.out]; exact Own.nil _ _, Below.refl _ _⟩
  by_cases q2 : 268435456 < n
  · have q1' : decide (n < 1) = false := by simp [q1]
    have q2' : decide (268435456 < n) = true := by simp [q2]
    have HE : Hid (ofF n = []) := hid (if_pos (Or.inr q2))
    go_enter Try.func11, Try.ntmps11
    go_wp2
    go_ret
    exact ⟨_, rfl, by rw [HE.out]; exact Own.nil _ _, Below.refl _ _⟩
  obtain ⟨m, hm⟩ : ∃ m : Nat, n = m := ⟨n.toNat, by omega⟩
  subst hm
  have HE : Hid (ofF m = tn m) := hid (by unfold ofF; rw [if_neg (by omega)]; rfl)
  have q1' : decide ((m : Int) < 1) = false := by simp; omega
  have q2' : decide (268435456 < (m : Int)) = false := by simp; omega
  have HT := hid (tn_right m (by omega))
  generalize tn m = T at HT HE
  go_enter Try.func11, Try.ntmps11
  go_wp2
  go_loopw [0, 3, 4] (fun nv lv kv wr => ∃ (A D : List Int) (k : Int), T = A ++ D ∧ nv = .int .i64 (vl A) ∧ kv = .int .i64 k ∧ -1 ≤ k ∧ k ≤ 28 ∧ (∀ x ∈ A, x < k + 1) ∧ Own wr w.heap.size lv D.reverse ∧ Below w.heap.size w wr) (fun _ _ kv _ => (intOf kv + 1).toNat)
  case atStart => exact ⟨T, [], 28, by simp, by rw [HT.out.2], rfl, by omega, by omega, fun x hx => by have := (HT.out.1.1 x hx).2; omega, Own.nil _ _, Below.refl _ _⟩
  case round =>
    obtain ⟨A, D, k, hT, rfl, rfl, hk1, hk2, hA, ho, hb⟩ := hrel
    have HA0 := hid hA
    have HT0 := hid hT
    have HO0 := hid ho
    have HB0 := hid hb
    clear hA hT ho hb
    by_cases h0 : 0 ≤ k
    · obtain ⟨j, rfl⟩ : ∃ j : Nat, k = j := ⟨k.toNat, by omega⟩
      skip
      go_wp2
      go_loopw [0, 3] (fun nv lv wr => ∃ (A D : List Int), Hid (T = A ++ D) ∧ nv = .int .i64 (vl A) ∧ Hid (∀ x ∈ A, x < (j : Int) + 1) ∧ Hid (Own wr w.heap.size lv D.reverse) ∧ Hid (Below w.heap.size w wr)) (fun nv _ _ => (intOf nv).toNat)
      case atStart => exact ⟨A, D, HT0, rfl, HA0, HO0, HB0⟩
      case round =>
        clear HT0 HA0 HO0 HB0
        obtain ⟨A, D, hT, rfl, hA, ho, hb⟩ := hrel
        have hRA : Hid (R A) := hid (R_pre (by rw [← hT.out]; exact HT.out.1))
        have b0 := vl_nonneg A
        have b1 : vl A ≤ 268435456 := by
          have h1 := HT.out.2
          rw [hT.out, vl_append] at h1
          have := vl_nonneg D
          omega
        have bc := cn_top j (by omega)
        have bc0 := cn_pos j
        have DL : Hid (D.length ≤ 30) := hid (by
          have := R_len HT.out.1
          rw [hT.out, List.length_append] at this
          omega)
        by_cases hge : cn j ≤ vl A
        · obtain ⟨B, hAB⟩ := pick hRA.out j hA.out hge
          have hvB : vl A - cn j = vl B := by rw [hAB, vl_append]; simp [vl]
          have HAB := hid hAB
          obtain ⟨s, hs⟩ : ∃ s, s = vl A := ⟨_, rfl⟩
          rw [← hs] at b0 b1 hge hvB ⊢
          clear hAB hs
          go_wp2_with fail
          refine (count_any j (by omega) _).mono ?_
          rintro e w2 ⟨rfl, rfl⟩
          go_wp2_with (at_builtin; refine wpList_append_lst rfl (.tmp 19) (.tmp 21) rfl w.heap.size _ _ _ _ [(j : Int)] rfl rfl (by exact World.ownsRow.alloc ho.out _) (by exact (own_lit0 _ w.heap.size hb.out.size [(j : Int)] (by simp) _ rfl).lst) (by have := DL.out; simp; omega) (by have := hb.out.size; simp; omega) ?_; intro v1 w1 o1 g1; have B1 := hid (below_grown (w0 := w) (World.ownsRow.alloc ho.out _) g1 (hb.out.alloc hb.out.size _)); have O1 := hid o1; clear o1 g1)
          refine (count_any j (by omega) _).mono ?_
          rintro e w2 ⟨rfl, rfl⟩
          go_wp2
          go_roundw
          case rel => exact ⟨B, (j : Int) :: D, hid (by rw [hT.out, HAB.out]; simp), (by first | rfl | rw [hvB]), hid (fun x hx => hA.out x (by rw [HAB.out]; simp [hx])), hid (by have := O1.out; unfold Own; rw [List.reverse_cons, row_append, List.length_append]; exact this), B1⟩
          case measure => simp [intOf] <;> omega
        · have HS := hid (stop j hA.out hge)
          obtain ⟨s, hs⟩ : ∃ s, s = vl A := ⟨_, rfl⟩
          rw [← hs] at b0 b1 hge ⊢
          have HS2 := hid hs
          clear hs
          go_wp2_with fail
          refine (count_any j (by omega) _).mono ?_
          rintro e w2 ⟨rfl, rfl⟩
          go_wp2
          go_roundw
          case rel => exact ⟨A, D, (j : Int) - 1, hT.out, by rw [HS2.out], by go_num, by omega, by omega, fun x hx => by have := HS.out x hx; omega, ho.out, hb.out⟩
          case measure => simp [intOf] <;> omega
    · have HE0 := none_left (A := A) (fun x hx => (HT.out.1.1 x (by rw [HT0.out]; simp [hx])).1) (fun x hx => by have := HA0.out x hx; omega)
      have HD : Hid (T = D) := hid (by rw [HT0.out, HE0]; rfl)
      have DL : Hid (D.length ≤ 30) := hid (by have := R_len HT.out.1; rw [HD.out] at this; exact this)
      clear HE0
      go_wp2_with fail
      refine (reverse_any w.heap.size _ D.reverse _ HO0.out (by have := DL.out; simp; omega)).mono ?_
      rintro e w2 ⟨rfl, o2, b2⟩
      have O2 := hid o2
      have B2 := hid b2
      clear o2 b2
      go_wp2
      go_ret
      exact ⟨_, rfl, by rw [HE.out, HD.out]; have := O2.out; rwa [List.reverse_reverse] at this, HB0.out.trans B2.out⟩
end Go.Proofs.Ytmfnbgljioecpaa
