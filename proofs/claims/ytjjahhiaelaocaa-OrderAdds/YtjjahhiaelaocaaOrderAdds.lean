/- Whatever two int64 numbers OrderAdds is called with, it returns true and leaves all memory that was there as it was: sums are held at the ends, commute, and do not go round. -/
import Derived.Test.YtjjahhiaelaocaaKnown
namespace Go.Proofs.Ytjjahhiaelaocaa.orderAdds
open Go.ChangeShapes Go.WideShapes Go.ChangeAt Go.RowKit
set_option linter.unusedVariables false      -- a walk need not use every 'w<i>' (that an integer argument fits its kind)

theorem own : ownKnob Try.prog.godebug = none := by kernel_rfl

theorem addS_comm (a b : Int) : addS a b = addS b a := by unfold addS; rw [Int.add_comm]
theorem addS_zero {a : Int} (h : I64 a) : addS a 0 = a := by rw [addS_mid (by simpa using h)]; omega
theorem addS_up {a b : Int} (ha : I64 a) (h : 0 ≤ b) : a ≤ addS a b := by obtain ⟨_, _⟩ := ha; unfold addS; split <;> (try split) <;> omega
theorem addS_down {a b : Int} (ha : I64 a) (h : b ≤ 0) : addS a b ≤ a := by obtain ⟨_, _⟩ := ha; unfold addS; split <;> (try split) <;> omega
theorem tdiv_two {a : Int} (ha : I64 a) : -4611686018427387904 ≤ a.tdiv 2 ∧ a.tdiv 2 ≤ 4611686018427387903 := by
  obtain ⟨_, _⟩ := ha
  rcases Int.le_total 0 a with h | h
  · rw [Int.tdiv_eq_ediv_of_nonneg h]; omega
  · have e : a.tdiv 2 = -((-a).tdiv 2) := by rw [Int.neg_tdiv, Int.neg_neg]
    rw [e, Int.tdiv_eq_ediv_of_nonneg (by omega)]; omega

set_option maxHeartbeats 1000000 in
theorem walk (a0 : Int) (a1 : Int) (w0 : (Lit.int .i64 a0).wf = true) (w1 : (Lit.int .i64 a1).wf = true) (w : World) :
    Calls Try.prog 6 #[.int .i64 a0, .int .i64 a1] w fun e w' => e = .returned (.bool true) ∧ Below w.heap.size w w' := by
  have ha := i64_of_wf w0
  have hb := i64_of_wf w1
  clear w0 w1
  have u := @addS_up a0 a1 ha
  have d := @addS_down a0 a1 ha
  obtain ⟨x1, x2⟩ := tdiv_two ha
  obtain ⟨y1, y2⟩ := tdiv_two hb
  have c1 : ∀ w, Calls Try.prog 17 #[.int .i64 a0, .int .i64 a1] w fun e w' => e = .returned (.int .i64 (addS a0 a1)) ∧ w' = w := fun w => add_any a0 a1 ha hb w
  have c2 : ∀ w, Calls Try.prog 17 #[.int .i64 a1, .int .i64 a0] w fun e w' => e = .returned (.int .i64 (addS a0 a1)) ∧ w' = w := fun w => by rw [addS_comm]; exact add_any a1 a0 hb ha w
  have c4 : ∀ w, Calls Try.prog 17 #[.int .i64 a0, .int .i64 0] w fun e w' => e = .returned (.int .i64 a0) ∧ w' = w := fun w => by
    have := add_any a0 0 ha ⟨by decide, by decide⟩ w; rw [addS_zero ha] at this; exact this
  have c3 : ∀ w, Calls Try.prog 17 #[.int .i64 (a0.tdiv 2), .int .i64 (a1.tdiv 2)] w fun e w' => e = .returned (.int .i64 (a0.tdiv 2 + a1.tdiv 2)) ∧ w' = w := fun w => by
    have := add_any (a0.tdiv 2) (a1.tdiv 2) ⟨by omega, by omega⟩ ⟨by omega, by omega⟩ w; rw [addS_mid ⟨by omega, by omega⟩] at this; exact this
  have C3 : Hid _ := c3
  have C4 : Hid _ := c4
  have C1 : Hid _ := c1
  have C2 : Hid _ := c2
  clear c1 c2 c3 c4
  obtain ⟨ha1, ha2⟩ := ha
  obtain ⟨hb1, hb2⟩ := hb
  generalize addS a0 a1 = s at u d C1 C2
  have hs : (s != s) = false := by simp
  by_cases p : 0 ≤ a1
  · have u' := u p
    have nu : decide (s < a0) = false := by simp; omega
    by_cases q : a1 ≤ 0
    · have d' := d q
      have nd : decide (a0 < s) = false := by simp; omega
      clear u d
      go_enter Try.func6, Try.ntmps6
      go_wp2_with fail
      refine (C1.out _).mono ?_
      rintro e w' ⟨rfl, rfl⟩
      go_wp2_with fail
      refine (C2.out _).mono ?_
      rintro e w' ⟨rfl, rfl⟩
      go_wp2_with fail
      refine (C3.out _).mono ?_
      rintro e w' ⟨rfl, rfl⟩
      go_wp2_with fail
      refine (C4.out _).mono ?_
      rintro e w' ⟨rfl, rfl⟩
      go_wp2_with fail
      refine (known_any _).mono ?_
      rintro e w' ⟨rfl, hbel⟩
      go_wp2
      go_ret
      exact ⟨rfl, hbel⟩
    · clear u d
      go_enter Try.func6, Try.ntmps6
      go_wp2_with fail
      refine (C1.out _).mono ?_
      rintro e w' ⟨rfl, rfl⟩
      go_wp2_with fail
      refine (C2.out _).mono ?_
      rintro e w' ⟨rfl, rfl⟩
      go_wp2_with fail
      refine (C3.out _).mono ?_
      rintro e w' ⟨rfl, rfl⟩
      go_wp2_with fail
      refine (C4.out _).mono ?_
      rintro e w' ⟨rfl, rfl⟩
      go_wp2_with fail
      refine (known_any _).mono ?_
      rintro e w' ⟨rfl, hbel⟩
      go_wp2
      go_ret
      exact ⟨rfl, hbel⟩
  · have d' := d (by omega)
    have nd : decide (a0 < s) = false := by simp; omega
    clear u d
    go_enter Try.func6, Try.ntmps6
    go_wp2_with fail
    refine (C1.out _).mono ?_
    rintro e w' ⟨rfl, rfl⟩
    go_wp2_with fail
    refine (C2.out _).mono ?_
    rintro e w' ⟨rfl, rfl⟩
    go_wp2_with fail
    refine (C3.out _).mono ?_
    rintro e w' ⟨rfl, rfl⟩
    go_wp2_with fail
    refine (C4.out _).mono ?_
    rintro e w' ⟨rfl, rfl⟩
    go_wp2_with fail
    refine (known_any _).mono ?_
    rintro e w' ⟨rfl, hbel⟩
    go_wp2
    go_ret
    exact ⟨rfl, hbel⟩

set_option maxRecDepth 100000 in
theorem lifted (os : Os) (started : os.Started) (H : Type) (enc : TypeId × Value → H) :
    ReturnsInHanded {} Try.checked os 6 .any (Rows.orderAddsSpec.pre6 enc Try.prog Try.f6 Rows.orderAddsRow.domain false) (Rows.orderAddsSpec.post enc Try.prog Try.f6 false true false false) := by
  refine returnsInHanded_of_change (C := Try.checked) own started (by kernel_rfl) Try.func6
    (ChangeSpec.witness6 (enc := enc) (C := Try.checked) false ⟨#[], #[.int .i64 0, .int .i64 0], []⟩ 8 (by kernel_rfl) (by kernel_rfl) (by kernel_rfl) (by kernel_rfl)) ?_
  intro W base args ds gs before hval0 hW hcnd _
  have hval : ∀ (j : Nat) t v, Try.f6.params[j]? = some t → args[j]? = some v → Value.okWide Try.prog W .any base t v := hval0
  have hW' := hW
  obtain ⟨p, q, hA0, hV, rfl, hfz, hnd⟩ := hW
  have hA : DataW.TrodAll enc Try.prog W 0 (fun _ => true) true Try.f6.params.toList args.toList ds p := hA0
  rw [Try.params6] at hA hval
  obtain ⟨v0, vs0, d0, ds0, p0, q0, hargs, rfl, rfl, h0, r0⟩ := trodAll_cons hA
  obtain ⟨v1, vs1, d1, ds1, p1, q1, rfl, rfl, rfl, h1, r1⟩ := trodAll_cons r0
  obtain ⟨rfl, rfl, rfl⟩ := trodAll_nil r1
  obtain rfl : args = #[v0, v1] := by cases args; simp_all
  obtain ⟨rfl, rfl⟩ := trodVars_none hV
  obtain ⟨a0, rfl, rfl, rfl, w0⟩ := open_int Try.underlying2 (hval 0 2 v0 rfl rfl) h0
  obtain ⟨a1, rfl, rfl, rfl, w1⟩ := open_int Try.underlying2 (hval 1 2 v1 rfl rfl) h1
  clear hA0 hval0
  refine (walk a0 a1 w0 w1 W).mono fun e W' ⟨he, hg⟩ => ?_
  subst he
  exact ⟨_, rfl, _, _, _, [], _, [], hW', trodAll_mk1 (shut_bool Try.underlying4 _), (trodAll_cons_mk (shut_int Try.underlying2 w0) (trodAll_cons_mk (shut_int Try.underlying2 w1) trodAll_mk0)), rfl, hg.frame _, fun h => by cases h⟩

theorem over : Rows.orderAddsRow.holds Try.pinned (OpenSpec.ofChange Rows.orderAddsSpec) :=
  OpenClaim.holds_of_wide 6 Try.f6 rfl rfl rfl rfl rfl rfl rfl ⟨rfl, rfl, rfl, rfl, rfl⟩ rfl rfl rfl rfl rfl (by kernel_rfl) Try.func6 (by kernel_rfl)
    (of_decide_eq_true (by kernel_rfl)) (by unfold Func.isWrapper; first | (rw [if_pos (by decide +kernel)]; kernel_rfl) | (rw [if_neg (by decide +kernel)]; exact ⟨rfl, rfl⟩))
    (fun os started H enc _ => lifted os started H enc)

end Go.Proofs.Ytjjahhiaelaocaa.orderAdds
namespace Go.Proofs.Ytjjahhiaelaocaa
theorem orderAdds_holds : Rows.OrderAddsSaid := orderAdds.over
#print axioms orderAdds_holds
end Go.Proofs.Ytjjahhiaelaocaa
