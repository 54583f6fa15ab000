/- ChainNumbers returns true, and nothing that was there has turned: chapter 6's runs, rings that are joined and taken apart in each order. -/
import Derived.Test.YticpldlckdckdaaPl
namespace Go.Proofs.Yticpldlckdckdaa
open Go.ChangeShapes Go.WideShapes Go.ChangeAt Go.RowKit

theorem info25 : (Try.prog.info? 25).map (fun i => (i.zero, i.size, i.bytes)) = some (some (.agg #[.int .i64 0, .int .i64 0, .int .i64 0]), 3, 24) := by kernel_rfl
theorem ask3_len : ∀ q, (ask3 q).length = 3 := fun _ => rfl
theorem ask3_one : ∀ q, ∀ v ∈ ask3 q, v.oneCell' = true := fun q v h => by
  simp [ask3] at h
  rcases h with rfl | rfl | rfl <;> rfl
theorem news1 (W : World) (o : Obj) (cs : Array Value) (t : TypeId) : ∀ j u, cs.toList[j]? = some u → ((W.alloc o).alloc (.cells cs t)).cell? ((⟨W.heap.size + 1, 0, none⟩ : Addr).add j) = some u := by
  have := World.news_of_block (heap_alloc_new (W.alloc o) (.cells cs t))
  simpa using this

/-- the kinds of seven asks -/
theorem kinds_cell (w : World) (m : Nat) (h : m < 7) : ∃ v : Int, (0 ≤ v ∧ v ≤ 4) ∧ (w.alloc (.cells #[.int .i64 0, .int .i64 2, .int .i64 1, .int .i64 3, .int .i64 2, .int .i64 4, .int .i64 3] 3)).cell? ⟨w.heap.size, m, none⟩ = some (.int .i64 v) := by
  have hb := heap_alloc_new w (.cells #[.int .i64 0, .int .i64 2, .int .i64 1, .int .i64 3, .int .i64 2, .int .i64 4, .int .i64 3] 3)
  match m, h with
  | 0, _ => exact ⟨0, by decide, blk_cell hb rfl⟩
  | 1, _ => exact ⟨2, by decide, blk_cell hb rfl⟩
  | 2, _ => exact ⟨1, by decide, blk_cell hb rfl⟩
  | 3, _ => exact ⟨3, by decide, blk_cell hb rfl⟩
  | 4, _ => exact ⟨2, by decide, blk_cell hb rfl⟩
  | 5, _ => exact ⟨4, by decide, blk_cell hb rfl⟩
  | 6, _ => exact ⟨3, by decide, blk_cell hb rfl⟩

theorem came_own {w : World} {base : Nat} {v : Value} {l : List Akk} (h : w.ownsRow base 25 3 v l.length (row ask3 l)) : ∃ a c, v = .slice a l.length c ∧ Came w a 3 ask3 l := by
  by_cases c : 0 < l.length
  · obtain ⟨g, cap, rfl, _, hg⟩ := h.form c
    refine ⟨_, _, rfl, Or.inr ⟨g, 0, rfl, hg, fun i x hx j hj => ?_⟩⟩
    have hi : i < l.length := (List.getElem?_eq_some_iff.1 hx).1
    rw [Nat.zero_add, h.cellAt (i * 3 + j) (by omega), row_get ask3_len l i j x hx hj]
  · obtain ⟨a, cp, rfl⟩ := own_form h
    exact ⟨a, cp, rfl, Or.inl (List.eq_nil_of_length_eq_zero (by omega))⟩

set_option maxHeartbeats 4000000 in
theorem numbers_walk (w : World) : Calls Try.prog 3 #[] w fun e w' => e = .returned (.bool true) ∧ Below w.heap.size w w' := by
  obtain ⟨ti, hti, hz0, hz1, hz2⟩ := info_parts info25
  have HT := hid hti
  have Z0 := hid hz0
  have Z1 := hid hz1
  have Z2 := hid hz2
  clear hti hz0 hz1 hz2
  go_enter Try.func3, Try.ntmps3
  go_wp2
  go_loopw [1, 2] (fun lv iv wr => ∃ (k : Nat) (l : List Akk), iv = .int .i64 k ∧ k ≤ 60 ∧ l.length = k ∧ (∀ x ∈ l, akkI x) ∧ wr.ownsRow w.heap.size 25 3 lv l.length (row ask3 l) ∧ Below w.heap.size w wr) (fun _ i _ => 60 - (intOf i).toNat)
  case atStart => exact ⟨0, [], rfl, by decide, rfl, fun x hx => (by cases hx), ⟨rfl, Or.inl ⟨rfl, rfl⟩⟩, Below.refl _ _⟩
  case round =>
    obtain ⟨k, l, rfl, hk, hlk, hI, hO, hB⟩ := hrel
    have HO := hid hO
    have HB := hid hB
    have HLK := hid hlk
    have HI := hid hI
    clear hO hB hlk hI
    by_cases hlt : k < 60
    · obtain ⟨m, hm⟩ : ∃ m : Nat, (k : Int) % 7 = (m : Int) := ⟨k % 7, by omega⟩
      obtain ⟨m3, hm3⟩ : ∃ m : Nat, ((k : Int) * 3) % 8 = (m : Int) := ⟨(k * 3) % 8, by omega⟩
      obtain ⟨m5, hm5⟩ : ∃ m : Nat, ((k : Int) * 5) % 7 = (m : Int) := ⟨(k * 5) % 7, by omega⟩
      have hm7 : m < 7 := by omega
      have hm38 : m3 < 8 := by omega
      have hm57 : m5 < 7 := by omega
      obtain ⟨v, hv, hcell⟩ := kinds_cell wr m hm7
      go_wp2_with (at_builtin; refine wpList_append_own _ rfl (.tmp 8) (.tmp 21) 22 rfl w.heap.size 25 ti _ 3 24 Try.underlying22 HT.out Z0.out Z1.out Z2.out rfl (by decide) u1 l.length (row ask3 l) rfl ((HO.out.alloc _).alloc _) ⟨wr.heap.size + 1, 0, none⟩ 1 1 (ask3 ⟨v, m3, m5⟩) rfl rfl (news1 wr _ #[.int .i64 v, .int .i64 m3, .int .i64 m5] 25) (ask3_one _) (by have := HLK.out; simp [maxLen]; omega) (by have := HLK.out; omega) (by have := HB.out.size; simp; omega) ?_; intro v' w' ho hg hn; have O1 := hid ho; have B1 := hid (((HB.out.alloc HB.out.size _).alloc (by have := HB.out.size; simp; omega) _).grown hg (by have := HB.out.size; simp; omega) (fun k hk => (HO.out.lt k hk).1)); clear ho hg hn hcell)
      go_roundw
      case rel =>
        refine ⟨k + 1, l ++ [⟨v, m3, m5⟩], by go_num, by omega, by simp [HLK.out], fun x hx => ?_, by rw [row_append, List.length_append]; simpa [row] using O1.out, B1.out⟩
        simp only [List.mem_append, List.mem_singleton] at hx
        rcases hx with hx | rfl
        · exact HI.out x hx
        · exact ⟨⟨by show (-9223372036854775808 : Int) ≤ v; omega, by show v ≤ 9223372036854775807; omega⟩, ⟨by show (-9223372036854775808 : Int) ≤ (m3 : Int); omega, by show (m3 : Int) ≤ 9223372036854775807; omega⟩, ⟨by show (-9223372036854775808 : Int) ≤ (m5 : Int); omega, by show (m5 : Int) ≤ 9223372036854775807; omega⟩⟩
      case measure => simp [intOf]; omega
    · obtain ⟨ca, cc, rfl, hC⟩ := came_own HO.out
      have CC := hid hC
      clear hC
      obtain ⟨wq, hwq⟩ : ∃ wq, wq = wr := ⟨wr, rfl⟩
      subst hwq
      go_wp2
      go_loopw [3] (fun nv wx => ∃ n : Nat, nv = .int .i64 n ∧ 1 ≤ n ∧ n ≤ 9 ∧ Below wq.heap.size wq wx) (fun n _ => (9 - intOf n).toNat)
      case atStart => exact ⟨1, rfl, by decide, by decide, Below.refl _ _⟩
      case round =>
        obtain ⟨n, rfl, hn1, hn2, hB2⟩ := hrel
        have B2 := hid hB2
        clear hB2
        by_cases hn : n < 9
        · have hn' : (n : Int) < 9 := by omega
          go_wp2_with fail
          refine (play_walk n hn1 (by omega) ca cc l _ (CC.out.below B2.out) HI.out).mono ?_
          rintro e w5 ⟨rfl, h5⟩
          have B5 := hid (B2.out.trans (h5.mono B2.out.size))
          clear h5
          go_wp2
          go_roundw
          case rel => exact ⟨n + 1, by go_num, by omega, by omega, B5.out⟩
          case measure => simp [intOf]; omega
        · have hn' : ¬ (n : Int) < 9 := by omega
          go_wp2_with fail
          refine (known_any _).mono ?_
          rintro e w7 ⟨rfl, h7⟩
          have B7 := hid ((HB.out.trans (B2.out.mono HB.out.size)).trans (h7.mono (Nat.le_trans HB.out.size B2.out.size)))
          clear h7
          go_wp2
          go_ret
          exact ⟨rfl, B7.out⟩

set_option maxRecDepth 100000 in
theorem chainNumbers_lifted (os : Os) (started : os.Started) (H : Type) (enc : TypeId × Value → H) :
    ReturnsInHanded {} Try.checked os 3 .any (Rows.chainNumbersSpec.pre6 enc Try.prog Try.f3 Rows.chainNumbersRow.domain false) (Rows.chainNumbersSpec.post enc Try.prog Try.f3 false true false false) := by
  refine returnsInHanded_of_change (C := Try.checked) own' started (by kernel_rfl) Try.func3
    (ChangeSpec.witness6 (enc := enc) (C := Try.checked) false ⟨#[], #[], []⟩ 8 (by kernel_rfl) (by kernel_rfl) (by kernel_rfl) (by kernel_rfl)) ?_
  intro W base args ds gs before hval0 hW hcnd _
  have hW' := hW
  obtain ⟨p, q, hA0, hV, rfl, hfz, hnd⟩ := hW
  have hA : DataW.TrodAll enc Try.prog W 0 (fun _ => true) true Try.f3.params.toList args.toList ds p := hA0
  rw [Try.params3] at hA
  obtain ⟨hargs, rfl, rfl⟩ := trodAll_nil hA
  obtain rfl : args = #[] := by cases args; simp_all
  obtain ⟨rfl, rfl⟩ := trodVars_none hV
  clear hA0 hval0
  refine (numbers_walk W).mono fun e W' ⟨he, bel⟩ => ?_
  subst he
  exact ⟨_, rfl, _, _, _, [], [], [], hW', trodAll_mk1 (shut_bool Try.underlying4 _), trodAll_mk0, rfl, bel.frame _, fun h => by cases h⟩

theorem chainNumbers_holds : Rows.ChainNumbersSaid :=
  OpenClaim.holds_of_wide 3 Try.f3 rfl rfl rfl rfl rfl rfl rfl ⟨rfl, rfl, rfl, rfl, rfl⟩ rfl rfl rfl rfl rfl (by kernel_rfl) Try.func3 (by kernel_rfl)
    (of_decide_eq_true (by kernel_rfl)) (by unfold Func.isWrapper; first | (rw [if_pos (by decide +kernel)]; kernel_rfl) | (rw [if_neg (by decide +kernel)]; exact ⟨rfl, rfl⟩))
    (fun os started H enc _ => chainNumbers_lifted os started H enc)
#print axioms chainNumbers_holds
end Go.Proofs.Yticpldlckdckdaa
