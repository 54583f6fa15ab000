/- The laws' before, least, thicketbook.Same. -/
import Derived.Test.YtnkpopeahmjodaaGreatHl
namespace Go.Proofs.YtnkpopeahmjodaaGreat
open Go.ChangeShapes Go.WideShapes Go.ChangeAt Go.RowKit

/-- what is held, as a value -/
def hv (x : Nat × Int × Int) : Value := .agg #[.int .i64 (x.1 : Int), .int .i64 x.2.1, .int .i64 x.2.2]
/-- is x before y? -/
def befH (x y : Nat × Int × Int) : Bool := bef x.2.1 x.2.2 y.2.1 y.2.2 || (decide (x.2.1 = y.2.1 ∧ x.2.2 = y.2.2) && decide (x.1 < y.1))

theorem equal44 (x y : Int × Int) (w : World) : (Op.equalIn 10000 44 (.agg #[.int .i64 x.1, .int .i64 x.2]) (.agg #[.int .i64 y.1, .int .i64 y.2])).run Tryz.prog w = .ok (decide (x = y)) w := by
  have u2 := Tryz.underlying2
  have a2 := Tryz.isAgg2
  have z2 := Tryz.sizeOf2
  have hS : Tryz.prog.underlying 44 = some (.struct (Tryz.prog.fieldsOf 44)) := by kernel_rfl
  have hp : Tryz.prog.stoodInHeld 44 = false := by kernel_rfl
  rw [show (10000 : Nat) = 9999 + 1 from rfl, run_equalIn_agg w 9999 44 _ _ hS hp]
  simp only [Program.fieldsOf, Tryz.underlying44]
  go_simp
  obtain ⟨x1, x2⟩ := x
  obtain ⟨y1, y2⟩ := y
  by_cases h1 : x1 = y1 <;> by_cases h2 : x2 = y2 <;> simp [h1, h2]
theorem eql44 (a b c d : Int) (w : World) : (binOp .eql 44 (.agg #[.int .i64 a, .int .i64 b]) (.agg #[.int .i64 c, .int .i64 d])).run Tryz.prog w = .ok (.bool (decide (a = c ∧ b = d))) w := by
  rw [run_eql_struct, equal44 (a, b) (c, d)]
  simp
theorem neq44 (a b c d : Int) (w : World) : (binOp .neq 44 (.agg #[.int .i64 a, .int .i64 b]) (.agg #[.int .i64 c, .int .i64 d])).run Tryz.prog w = .ok (.bool (!decide (a = c ∧ b = d))) w := by
  rw [run_neq_struct, equal44 (a, b) (c, d)]
  simp

set_option maxHeartbeats 1000000 in
theorem beforeH (x y : Nat × Int × Int) (w : World) : Calls Tryz.prog 49 #[hv x, hv y] w fun e w' => e = .returned (.bool (befH x y)) ∧ Kept (fun _ => False) w w' := by
  obtain ⟨xc, xk, xs⟩ := x
  obtain ⟨yc, yk, ys⟩ := y
  unfold befH hv
  simp only
  have B := hid (fun w => refBefore_any xk xs yk ys w)
  generalize bef xk xs yk ys = b at *
  have hz : w.heap.size < w.heap.size + 1 + 1 + 1 := by omega
  have hz' : w.heap.size + 1 < w.heap.size + 1 + 1 + 1 := by omega
  cases b
  · have hE := fun w => eql44 xk xs yk ys w
    generalize hd : decide (xk = yk ∧ xs = ys) = d at *
    clear hd
    cases d
    · go_enter Tryz.func49, Tryz.ntmps49
      go_wp2_with fail
      refine (B.out _).mono ?_
      rintro e w1 ⟨rfl, c1, c2, rfl⟩
      go_wp2
      go_ret
      exact ⟨rfl, ((((Kept.refl _ _).alloc _).alloc _).alloc _).alloc _⟩
    · go_enter Tryz.func49, Tryz.ntmps49
      go_wp2_with fail
      refine (B.out _).mono ?_
      rintro e w1 ⟨rfl, c1, c2, rfl⟩
      go_wp2
      go_ret
      exact ⟨ret_bool (by simp), ((((Kept.refl _ _).alloc _).alloc _).alloc _).alloc _⟩
  · go_enter Tryz.func49, Tryz.ntmps49
    go_wp2_with fail
    refine (B.out _).mono ?_
    rintro e w1 ⟨rfl, c1, c2, rfl⟩
    go_wp2
    go_ret
    exact ⟨ret_bool (by simp), ((((Kept.refl _ _).alloc _).alloc _).alloc _).alloc _⟩

/-- where the least is, looked for up to i -/
def lstS (L : List (Nat × Int × Int)) : Nat → Nat
  | 0 => 0
  | i + 1 => match L[i + 1]?, L[lstS L i]? with
    | some x, some y => if befH x y = true then i + 1 else lstS L i
    | _, _ => lstS L i
theorem lstS_le (L : List (Nat × Int × Int)) : ∀ i, lstS L i ≤ i
  | 0 => Nat.le_refl _
  | i + 1 => by
    have := lstS_le L i
    unfold lstS
    split
    · split <;> omega
    · omega

set_option maxHeartbeats 2000000 in
theorem leastH {P : Nat → Prop} (v : Value) (L : List (Nat × Int × Int)) (w : World) (h : Lz P w v L) (hl : L.length ≤ 1000) :
    Calls Tryz.prog 29 #[v] w fun e w' => e = .returned (.int .i64 (lstS L (L.length - 1) : Nat)) ∧ Kept (fun _ => False) w w' := by
  have HH := hid h
  obtain ⟨va, vc, rfl⟩ := h.form
  clear h
  go_enter Tryz.func29, Tryz.ntmps29
  go_wp2
  go_loopw [3, 4] (fun kv iv wr => ∃ (i k : Nat), iv = .int .i64 i ∧ kv = .int .i64 k ∧ 1 ≤ i ∧ (i ≤ L.length ∨ i = 1) ∧ k = lstS L (i - 1) ∧ Kept (fun _ => False) w wr) (fun _ i _ => L.length - (intOf i).toNat)
  case atStart => exact ⟨1, 0, rfl, rfl, Nat.le_refl _, Or.inr rfl, rfl, Kept.refl _ _⟩
  case round =>
    obtain ⟨i, k, rfl, rfl, h1, h2, hk, kr⟩ := hrel
    have KR := hid kr
    have HK := hid hk
    have hki : k < i := by have := lstS_le L (i - 1); omega
    clear hk
    by_cases hlt : i < L.length
    · have hkl : k < L.length := by omega
      have hx : L[i]? = some (L[i]'hlt) := List.getElem?_eq_getElem (by omega)
      have hy : L[k]? = some (L[k]'hkl) := List.getElem?_eq_getElem (by omega)
      have HX := hid hx
      have HY := hid hy
      generalize L[i]'hlt = x at hx HX
      generalize L[k]'hkl = y at hy HY
      have HR : Hid (Lz P wr (.slice va L.length vc) L) := HH.out.kept kr (fun _ _ e => e)
      obtain ⟨b, cap, e, hc, hb, hP, x1, x2, x3⟩ := HR.out.at hx
      obtain ⟨b', cap', e', hc', hb', hP', y1, y2, y3⟩ := HR.out.at hy
      cases e
      cases e'
      have hlt' : (i : Int) < (L.length : Int) := by omega
      have hkl' : (k : Int) < (L.length : Int) := by omega
      have B := hid (fun w => beforeH x y w)
      unfold hv at B
      have S := hid (show lstS L i = if befH x y = true then i else k by
        cases i with
        | zero => omega
        | succ i =>
          have e1 := HK.out
          simp only [Nat.add_sub_cancel] at e1
          have e2 := HX.out
          have e3 := HY.out
          rw [e1] at e3
          unfold lstS
          rw [e2, e3]
          simp only
          rw [e1])
      clear hx hy HX HY HK kr hP hP' hc hc'
      generalize befH x y = bb at *
      cases bb
      · go_wp2_with fail
        go_region_held3 (fun w' => w'.cell? ⟨b, i * 3, none⟩ = some (.int .i64 (x.1 : Int)) ∧ w'.cell? ⟨b, i * 3 + 1, none⟩ = some (.int .i64 x.2.1) ∧ w'.cell? ⟨b, i * 3 + 2, none⟩ = some (.int .i64 x.2.2) ∧ w'.cell? ⟨b, k * 3, none⟩ = some (.int .i64 (y.1 : Int)) ∧ w'.cell? ⟨b, k * 3 + 1, none⟩ = some (.int .i64 y.2.1) ∧ w'.cell? ⟨b, k * 3 + 2, none⟩ = some (.int .i64 y.2.2)) (first | exact ⟨x1, x2, x3, y1, y2, y3⟩ | (simp [go_sem]; exact ⟨x1, x2, x3, y1, y2, y3⟩))
          (first
            | (go_at_call 49; refine (B.out _).mono ?_; rintro e w3 ⟨rfl, k3⟩; replace x1 := (k3.cell (p := ⟨b, i * 3, none⟩) hb (fun e => e)).trans x1; replace x2 := (k3.cell (p := ⟨b, i * 3 + 1, none⟩) hb (fun e => e)).trans x2; replace x3 := (k3.cell (p := ⟨b, i * 3 + 2, none⟩) hb (fun e => e)).trans x3; replace y1 := (k3.cell (p := ⟨b, k * 3, none⟩) hb (fun e => e)).trans y1; replace y2 := (k3.cell (p := ⟨b, k * 3 + 1, none⟩) hb (fun e => e)).trans y2; replace y3 := (k3.cell (p := ⟨b, k * 3 + 2, none⟩) hb (fun e => e)).trans y3; have K3 := hid k3; clear k3))
        go_wp2
        go_roundw
        case rel => exact ⟨i + 1, k, by go_num, rfl, by omega, Or.inl (by omega), by rw [Nat.add_sub_cancel]; exact (S.out.trans (if_neg (by decide))).symm, (KR.out.drewN _).trans' K3.out⟩
        case measure => simp [intOf]; omega
      · go_wp2_with fail
        go_region_held3 (fun w' => w'.cell? ⟨b, i * 3, none⟩ = some (.int .i64 (x.1 : Int)) ∧ w'.cell? ⟨b, i * 3 + 1, none⟩ = some (.int .i64 x.2.1) ∧ w'.cell? ⟨b, i * 3 + 2, none⟩ = some (.int .i64 x.2.2) ∧ w'.cell? ⟨b, k * 3, none⟩ = some (.int .i64 (y.1 : Int)) ∧ w'.cell? ⟨b, k * 3 + 1, none⟩ = some (.int .i64 y.2.1) ∧ w'.cell? ⟨b, k * 3 + 2, none⟩ = some (.int .i64 y.2.2)) (first | exact ⟨x1, x2, x3, y1, y2, y3⟩ | (simp [go_sem]; exact ⟨x1, x2, x3, y1, y2, y3⟩))
          (first
            | (go_at_call 49; refine (B.out _).mono ?_; rintro e w3 ⟨rfl, k3⟩; replace x1 := (k3.cell (p := ⟨b, i * 3, none⟩) hb (fun e => e)).trans x1; replace x2 := (k3.cell (p := ⟨b, i * 3 + 1, none⟩) hb (fun e => e)).trans x2; replace x3 := (k3.cell (p := ⟨b, i * 3 + 2, none⟩) hb (fun e => e)).trans x3; replace y1 := (k3.cell (p := ⟨b, k * 3, none⟩) hb (fun e => e)).trans y1; replace y2 := (k3.cell (p := ⟨b, k * 3 + 1, none⟩) hb (fun e => e)).trans y2; replace y3 := (k3.cell (p := ⟨b, k * 3 + 2, none⟩) hb (fun e => e)).trans y3; have K3 := hid k3; clear k3))
        go_wp2
        go_roundw
        case rel => exact ⟨i + 1, i, by go_num, rfl, by omega, Or.inl (by omega), by rw [Nat.add_sub_cancel, S.out]; simp, (KR.out.drewN _).trans' K3.out⟩
        case measure => simp [intOf]; omega
    · have hge : decide ((i : Int) < (L.length : Int)) = false := by simp; omega
      have E := hid (show lstS L (L.length - 1) = k by
        have e := HK.out
        rw [e]
        rcases h2 with h2 | h2
        · rw [show i = L.length by omega]
        · subst h2
          rw [show L.length - 1 = 0 by omega])
      go_wp2
      go_ret
      exact ⟨ret_int (by rw [E.out]), KR.out⟩

set_option maxHeartbeats 1000000 in
theorem sameN (a b : Value) (l m : List Nat) (hlm : l = m) (hl : l.length ≤ 1000000) (w : World) (ha : w.ownsRow 0 3 1 a l.length (row nat1 l)) (hb : w.ownsRow 0 3 1 b m.length (row nat1 m)) :
    Calls Tryz.prog 22 #[a, b] w fun e w' => e = .returned (.bool true) ∧ ∃ n, w' = w.drewN n := by
  subst hlm
  have HA := hid ha
  have HB := hid hb
  obtain ⟨aa, ac, rfl⟩ := own_form ha
  obtain ⟨ba, bc, rfl⟩ := own_form hb
  clear ha hb
  go_enter Tryz.func22, Tryz.ntmps22
  go_wp2
  go_loopw [5] (fun iv wr => ∃ (i n : Nat), iv = .int .i64 i ∧ i ≤ l.length ∧ wr = w.drewN n) (fun i _ => l.length - (intOf i).toNat)
  case atStart => exact ⟨0, 0, rfl, Nat.zero_le _, rfl⟩
  case round =>
    obtain ⟨i, n, rfl, hi, rfl⟩ := hrel
    by_cases hlt : i < l.length
    · have hx : l[i]? = some l[i] := List.getElem?_eq_getElem hlt
      obtain ⟨ga, ca, ea, hga, _, hka⟩ := own1_at HA.out nat1_len hx
      obtain ⟨gb, cb, eb, hgb, _, hkb⟩ := own1_at HB.out nat1_len hx
      cases ea
      cases eb
      generalize l[i] = x at hx hka hkb
      replace hka : w.cell? ⟨ga, i, none⟩ = some (.int .i64 (x : Int)) := hka
      replace hkb : w.cell? ⟨gb, i, none⟩ = some (.int .i64 (x : Int)) := hkb
      have hlt' : (i : Int) < (l.length : Int) := by omega
      clear hx
      go_wp2_with fail
      go_quiet (fail)
      go_wp2
      go_roundw
      case rel => exact ⟨i + 1, n + nq, by go_num, by omega, by simp [go_sem]⟩
      case measure => simp [intOf]; omega
    · obtain rfl : i = l.length := by omega
      go_wp2
      go_ret
      exact ⟨rfl, _, rfl⟩
end Go.Proofs.YtnkpopeahmjodaaGreat
