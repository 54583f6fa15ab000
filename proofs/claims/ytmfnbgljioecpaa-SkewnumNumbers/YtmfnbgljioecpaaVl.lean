/- The walks of Value, of the reference's, and of Same. -/
import Derived.Test.YtmfnbgljioecpaaRt
import Derived.Test.YtmfnbgljioecpaaCn
namespace Go.Proofs.Ytmfnbgljioecpaa
open Go.ChangeShapes Go.WideShapes Go.ChangeAt Go.RowKit

open Classical in
noncomputable def vb (l : List Int) : Int := if R l then vl l else -1

theorem vl_take {l : List Int} {i : Nat} {x : Int} (h : l[i]? = some x) : vl (l.take (i + 1)) = vl (l.take i) + cn x.toNat := by
  rw [List.take_add_one, h, vl_append]; simp [vl]
theorem vl_take_le {l : List Int} (h : ∀ x ∈ l, 0 ≤ x ∧ x ≤ 28) (i : Nat) : vl (l.take i) ≤ 536870911 * l.length := by
  have := vl_le (l.take i) fun x hx => h x (List.mem_of_mem_take hx)
  have h2 : ((l.take i).length : Int) ≤ l.length := by simp; omega
  omega

theorem cn_add (k : Nat) (hk : k ≤ 28) (s : Int) (h0 : 0 ≤ s) (h1 : s ≤ 1000000000000) : wrap64 (wrap64 (s + wrap64 (2 ^ (k + 1))) - 1) = s + cn k := by
  have h := cn_wrap k hk
  have h2 : ∀ k, k < 29 → wrap64 (2 ^ (k + 1)) = cn k + 1 := by unfold wrap64; decide +kernel
  have b := cn_top k hk
  have b0 := cn_pos k
  rw [h2 k (by omega), IntWalk.wrap64_in (s + (cn k + 1)) ⟨by omega, by omega⟩, IntWalk.wrap64_in _ ⟨by omega, by omega⟩]
  omega

set_option maxHeartbeats 2000000 in
theorem value_any (v : Value) (l : List Int) (w : World) (h : Lst w v l) (hl : l.length ≤ 1000) :
    Calls Try.prog 10 #[v] w fun e w' => e = .returned (.int .i64 (vb l)) ∧ ∃ n, w' = w.drewN n := by
  have RT := hid (right_any v l w h hl)
  obtain ⟨a, c, rfl, h1, h2, h3, h4⟩ := h
  have H4 := hid h4
  clear h4 h3 h2
  go_enter Try.func10, Try.ntmps10
  go_wp2_with fail
  refine RT.out.mono ?_
  rintro e w1 ⟨rfl, n, rfl⟩
  by_cases hr : R l
  · rw [rb_true.2 hr]
    have HV : Hid (vb l = vl l) := hid (if_pos hr)
    have HB := hid hr.1
    have HN := hid (vl_take_le hr.1)
    clear hr RT
    go_wp2
    go_loopw [3, 11] (fun sv iv wr => ∃ (j : Nat), iv = .int .i64 (j : Int) ∧ sv = .int .i64 (vl (l.take j)) ∧ j ≤ l.length ∧ wr = w.drewN n) (fun _ i _ => l.length - (intOf i).toNat)
    case atStart => exact ⟨0, rfl, by simp [vl], Nat.zero_le _, rfl⟩
    case round =>
      obtain ⟨j, rfl, rfl, hj, rfl⟩ := hrel
      by_cases hlt : j < l.length
      · have hx : l[j]? = some l[j] := List.getElem?_eq_getElem hlt
        generalize l[j] = x at hx
        rcases H4.out with e | ⟨b, off, rfl, hb, hc⟩
        · subst e; simp at hlt
        obtain ⟨x', hx'⟩ : ∃ k : Nat, x = k := ⟨x.toNat, by have := HB.out x (List.mem_of_getElem? hx); omega⟩
        subst hx'
        have c1 : w.cell? ⟨b, off + j, none⟩ = some (.int .i64 x') := hc _ _ hx
        have hlt' : (j : Int) < (l.length : Int) := by omega
        have hk := (HB.out _ (List.mem_of_getElem? hx)).2
        have T1 := hid (vl_take hx)
        have b1 := HN.out j
        have b0 := vl_nonneg (l.take j)
        have b2 := cn_top x' (by omega)
        have b3 := cn_pos x'
        obtain ⟨s, hs⟩ : ∃ s, s = vl (l.take j) := ⟨_, rfl⟩
        rw [← hs] at b1 b0 ⊢
        have HS := hid hs
        clear hs hx hc
        go_wp2_with fail
        refine (count_any x' (by omega) _).mono ?_
        rintro e w2 ⟨rfl, rfl⟩
        go_wp2
        go_roundw
        case rel => exact ⟨j + 1, by go_num, by rw [T1.out, ← HS.out]; simp, by omega, trivial⟩
        case measure => simp [intOf]; omega
      · obtain rfl : j = l.length := by omega
        rw [List.take_length]
        have e := HV.out
        rw [← e]
        clear e
        go_wp2
        go_ret
        exact ⟨rfl, n, rfl⟩
  · rw [rb_false.2 hr]
    have HV : Hid (vb l = -1) := hid (if_neg hr)
    clear hr RT
    go_wp2
    go_ret
    exact ⟨by rw [HV.out]; rfl, n, rfl⟩

set_option maxHeartbeats 2000000 in
theorem refValue_any (v : Value) (l : List Int) (w : World) (h : Lst w v l) (hl : l.length ≤ 1000) :
    Calls Try.prog 24 #[v] w fun e w' => e = .returned (.int .i64 (vb l)) ∧ ∃ n, w' = w.drewN n := by
  have RT := hid (refRight_any v l w h hl)
  obtain ⟨a, c, rfl, h1, h2, h3, h4⟩ := h
  have H4 := hid h4
  clear h4 h3 h2
  go_enter Try.func24, Try.ntmps24
  go_wp2_with fail
  refine RT.out.mono ?_
  rintro e w1 ⟨rfl, n, rfl⟩
  by_cases hr : R l
  · rw [rb_true.2 hr]
    have HV : Hid (vb l = vl l) := hid (if_pos hr)
    have HB := hid hr.1
    have HN := hid (vl_take_le hr.1)
    clear hr RT
    go_wp2
    go_loopw [3, 4] (fun sv iv wr => ∃ (j : Nat), iv = .int .i64 (j : Int) ∧ sv = .int .i64 (vl (l.take j)) ∧ j ≤ l.length ∧ wr = w.drewN n) (fun _ i _ => l.length - (intOf i).toNat)
    case atStart => exact ⟨0, rfl, by simp [vl], Nat.zero_le _, rfl⟩
    case round =>
      obtain ⟨j, rfl, rfl, hj, rfl⟩ := hrel
      by_cases hlt : j < l.length
      · have hx : l[j]? = some l[j] := List.getElem?_eq_getElem hlt
        generalize l[j] = x at hx
        rcases H4.out with e | ⟨b, off, rfl, hb, hc⟩
        · subst e; simp at hlt
        obtain ⟨x', hx'⟩ : ∃ k : Nat, x = k := ⟨x.toNat, by have := HB.out x (List.mem_of_getElem? hx); omega⟩
        subst hx'
        have c1 : w.cell? ⟨b, off + j, none⟩ = some (.int .i64 x') := hc _ _ hx
        have hlt' : (j : Int) < (l.length : Int) := by omega
        have hk := (HB.out _ (List.mem_of_getElem? hx)).2
        have T1 := hid (vl_take hx)
        have b1 := HN.out j
        have b0 := vl_nonneg (l.take j)
        have b2 := cn_top x' (by omega)
        have b3 := cn_pos x'
        obtain ⟨s, hs⟩ : ∃ s, s = vl (l.take j) := ⟨_, rfl⟩
        rw [← hs] at b1 b0 ⊢
        have HS := hid hs
        clear hs hx hc
        go_wp2
        go_roundw
        case rel => exact ⟨j + 1, by go_num, by rw [T1.out, ← HS.out, cn_add x' (by omega) s (by omega) (by omega)]; simp, by omega, trivial⟩
        case measure => simp [intOf]; omega
      · obtain rfl : j = l.length := by omega
        rw [List.take_length]
        have e := HV.out
        rw [← e]
        clear e
        go_wp2
        go_ret
        exact ⟨rfl, n, rfl⟩
  · rw [rb_false.2 hr]
    have HV : Hid (vb l = -1) := hid (if_neg hr)
    clear hr RT
    go_wp2
    go_ret
    exact ⟨by rw [HV.out]; rfl, n, rfl⟩

set_option maxHeartbeats 2000000 in
theorem same_any (u v : Value) (l m : List Int) (w : World) (hu : Lst w u l) (hv : Lst w v m) (hl : l.length ≤ 1000) (hm : m.length ≤ 1000) :
    Calls Try.prog 8 #[u, v] w fun e w' => e = .returned (.bool (decide (l = m))) ∧ ∃ n, w' = w.drewN n := by
  obtain ⟨a, c, rfl, h1, h2, h3, h4⟩ := hu
  obtain ⟨a', c', rfl, h1', h2', h3', h4'⟩ := hv
  have H4 := hid h4
  have H4' := hid h4'
  clear h4 h3 h2 h4' h3' h2'
  by_cases hlm : l.length = m.length
  · have HLM := hid hlm
    rw [← hlm] at hm h1' ⊢
    clear hlm
    go_enter Try.func8, Try.ntmps8
    go_wp2
    go_loopw [5] (fun iv wr => ∃ (i n : Nat), iv = .int .i64 (i : Int) ∧ i ≤ l.length ∧ wr = w.drewN n ∧ Hid (∀ j, j < i → l[j]? = m[j]?)) (fun i _ => l.length - (intOf i).toNat)
    case atStart => exact ⟨0, 0, rfl, Nat.zero_le _, rfl, hid fun j hj => by omega⟩
    case round =>
      obtain ⟨i, n, rfl, hi, rfl, heq⟩ := hrel
      by_cases hlt : i < l.length
      · have hx : l[i]? = some l[i] := List.getElem?_eq_getElem hlt
        have hy : m[i]? = some (m[i]'(by rw [← HLM.out]; exact hlt)) := List.getElem?_eq_getElem (by rw [← HLM.out]; exact hlt)
        generalize l[i] = x at hx
        generalize m[i]'(by rw [← HLM.out]; exact hlt) = y at hy
        rcases H4.out with e | ⟨b, off, rfl, hb, hc⟩
        · subst e; simp at hlt
        rcases H4'.out with e | ⟨b', off', rfl, hb', hc'⟩
        · subst e; simp at hy
        have c1 : w.cell? ⟨b, off + i, none⟩ = some (.int .i64 x) := hc _ _ hx
        have c2 : w.cell? ⟨b', off' + i, none⟩ = some (.int .i64 y) := hc' _ _ hy
        have hlt' : (i : Int) < (l.length : Int) := by omega
        have HX := hid hx
        have HY := hid hy
        clear hx hy hc hc'
        by_cases q : x = y
        · subst q
          go_wp2_with fail
          go_quiet (fail)
          go_wp2
          go_roundw
          case rel => exact ⟨i + 1, n + nq, by go_num, by omega, by simp [go_sem], hid fun j hj => by
            by_cases c : j < i
            · exact heq.out j c
            · obtain rfl : j = i := by omega
              rw [HX.out, HY.out]⟩
          case measure => simp [intOf]; omega
        · have q' : (x != y) = true := by simp [q]
          have Q := hid q
          go_wp2_with fail
          go_quiet (fail)
          go_wp2
          go_ret
          refine ⟨?_, n + nq, by simp [go_sem]⟩
          rw [decide_eq_false (p := l = m) (fun e => Q.out (by have := HX.out; rw [e, HY.out] at this; injection this with this; exact this.symm))]
          rfl
      · have E : Hid (l = m) := hid (List.ext_getElem? fun j => by
          by_cases c : j < i
          · exact heq.out j c
          · rw [List.getElem?_eq_none (by omega), List.getElem?_eq_none (by rw [← HLM.out]; omega)])
        clear heq H4 H4' HLM
        go_wp2
        go_ret
        refine ⟨?_, n, rfl⟩
        rw [decide_eq_true E.out]
        rfl
  · have hlm' : ((l.length : Int) != (m.length : Int)) = true := by simp; omega
    have Q := hid hlm
    clear H4 H4' hlm
    go_enter Try.func8, Try.ntmps8
    go_wp2
    go_ret
    refine ⟨?_, 0, rfl⟩
    rw [decide_eq_false (p := l = m) (fun e => Q.out (by rw [e]))]
    rfl
end Go.Proofs.Ytmfnbgljioecpaa
