/- PoolNumbers returns true, and nothing that was there has turned: chapter 2's runs, pools of each size, full, given back in each order, Refs that are none. -/
import Derived.Test.YtliabapopgeieaaPoolPlays
namespace Go.Proofs.Ytliabapopgeieaa
open Go.ChangeShapes Go.WideShapes Go.ChangeAt Go.RowKit

theorem info27 : (Try.prog.info? 27).map (fun i => (i.zero, i.size, i.bytes)) = some (some (.agg #[.int .i64 0, .int .i64 0, .int .i64 0, .int .i64 0, .int .i64 0]), 5, 40) := by kernel_rfl
theorem ask5_len : ∀ q, (ask5 q).length = 5 := fun _ => rfl
theorem ask5_one : ∀ q, ∀ v ∈ ask5 q, v.oneCell' = true := fun q v h => by
  simp [ask5] at h
  rcases h with rfl | rfl | rfl | rfl | rfl <;> rfl

/-- the kinds of ten asks -/
def kinds : List Int := [0, 0, 3, 0, 5, 6, 0, 4, 5, 0]
theorem kinds_cell (w : World) (m : Nat) (h : m < 10) : ∃ v : Int, I64 v ∧ (w.alloc (.cells #[.int .i64 0, .int .i64 0, .int .i64 3, .int .i64 0, .int .i64 5, .int .i64 6, .int .i64 0, .int .i64 4, .int .i64 5, .int .i64 0] 3)).cell? ⟨w.heap.size, m, none⟩ = some (.int .i64 v) := by
  have hb := heap_alloc_new w (.cells #[.int .i64 0, .int .i64 0, .int .i64 3, .int .i64 0, .int .i64 5, .int .i64 6, .int .i64 0, .int .i64 4, .int .i64 5, .int .i64 0] 3)
  match m, h with
  | 0, _ => exact ⟨0, ⟨by decide, by decide⟩, blk_cell hb rfl⟩
  | 1, _ => exact ⟨0, ⟨by decide, by decide⟩, blk_cell hb rfl⟩
  | 2, _ => exact ⟨3, ⟨by decide, by decide⟩, blk_cell hb rfl⟩
  | 3, _ => exact ⟨0, ⟨by decide, by decide⟩, blk_cell hb rfl⟩
  | 4, _ => exact ⟨5, ⟨by decide, by decide⟩, blk_cell hb rfl⟩
  | 5, _ => exact ⟨6, ⟨by decide, by decide⟩, blk_cell hb rfl⟩
  | 6, _ => exact ⟨0, ⟨by decide, by decide⟩, blk_cell hb rfl⟩
  | 7, _ => exact ⟨4, ⟨by decide, by decide⟩, blk_cell hb rfl⟩
  | 8, _ => exact ⟨5, ⟨by decide, by decide⟩, blk_cell hb rfl⟩
  | 9, _ => exact ⟨0, ⟨by decide, by decide⟩, blk_cell hb rfl⟩

theorem came_own {w : World} {base : Nat} {v : Value} {l : List Ask} (h : w.ownsRow base 27 5 v l.length (row ask5 l)) : ∃ a c, v = .slice a l.length c ∧ Came w a 5 ask5 l := by
  by_cases c : 0 < l.length
  · obtain ⟨g, cap, rfl, _, hg⟩ := h.form c
    refine ⟨_, _, rfl, Or.inr ⟨g, 0, rfl, hg, fun i x hx j hj => ?_⟩⟩
    have hi : i < l.length := (List.getElem?_eq_some_iff.1 hx).1
    rw [Nat.zero_add, h.cellAt (i * 5 + j) (by omega), row_get ask5_len l i j x hx hj]
  · obtain ⟨a, cp, rfl⟩ := own_form h
    exact ⟨a, cp, rfl, Or.inl (List.eq_nil_of_length_eq_zero (by omega))⟩

set_option maxHeartbeats 4000000 in
theorem numbers_walk (w : World) : Calls Try.prog 3 #[] w fun e w' => e = .returned (.bool true) ∧ Below w.heap.size w w' := by
  obtain ⟨ti, hti, hz0, hz1, hz2⟩ := info_parts info27
  have HT := hid hti
  have Z0 := hid hz0
  have Z1 := hid hz1
  have Z2 := hid hz2
  clear hti hz0 hz1 hz2
  go_enter Try.func3, Try.ntmps3
  go_wp2
  go_loopw [1, 2] (fun lv iv wr => ∃ (k : Nat) (l : List Ask), iv = .int .i64 k ∧ k ≤ 60 ∧ l.length = k ∧ (∀ x ∈ l, askI x) ∧ wr.ownsRow w.heap.size 27 5 lv l.length (row ask5 l) ∧ Below w.heap.size w wr) (fun _ i _ => 60 - (intOf i).toNat)
  case atStart => exact ⟨0, [], rfl, by decide, rfl, fun x hx => (by cases hx), ⟨rfl, Or.inl ⟨rfl, rfl⟩⟩, Below.refl _ _⟩
  case round =>
    obtain ⟨k, l, rfl, hk, hlk, hI, hO, hB⟩ := hrel
    have HI := hid hI
    have HO := hid hO
    have HB := hid hB
    have HLK := hid hlk
    clear hI hO hB hlk
    by_cases hlt : k < 60
    · obtain ⟨m, hm⟩ : ∃ m : Nat, (k : Int) % 10 = (m : Int) := ⟨k % 10, by omega⟩
      obtain ⟨m6, hm6⟩ : ∃ m : Nat, (k : Int) % 6 = (m : Int) := ⟨k % 6, by omega⟩
      obtain ⟨m4, hm4⟩ : ∃ m : Nat, (k : Int) % 4 = (m : Int) := ⟨k % 4, by omega⟩
      have hm10 : m < 10 := by omega
      have hm60 : m6 < 6 := by omega
      have hm40 : m4 < 4 := by omega
      obtain ⟨v, hv, hcell⟩ := kinds_cell wr m hm10
      have HV := hid hv
      clear hv
      go_wp2_with (at_builtin; refine wpList_append_own _ rfl (.tmp 9) (.tmp 26) 22 rfl w.heap.size 27 ti _ 5 40 Try.underlying22 HT.out Z0.out Z1.out Z2.out rfl (by decide) u1 l.length (row ask5 l) rfl ((HO.out.alloc _).alloc _) ⟨wr.heap.size + 1, 0, none⟩ 1 1 (ask5 ⟨v, (k : Int) * 7, k, (m6 : Int) - 1, (m4 : Int) - 1⟩) rfl rfl (news1 wr _ #[.int .i64 v, .int .i64 ((k : Int) * 7), .int .i64 k, .int .i64 ((m6 : Int) - 1), .int .i64 ((m4 : Int) - 1)] 27) (ask5_one _) (by have := HLK.out; simp [maxLen]; omega) (by have := HLK.out; omega) (by have := HB.out.size; simp; omega) ?_; intro v' w' ho hg hn; have O1 := hid ho; have B1 := hid (((HB.out.alloc HB.out.size _).alloc (by have := HB.out.size; simp; omega) _).grown hg (by have := HB.out.size; simp; omega) (fun k hk => (HO.out.lt k hk).1)); clear ho hg hn hcell)
      go_roundw
      case rel =>
        refine ⟨k + 1, l ++ [⟨v, (k : Int) * 7, k, (m6 : Int) - 1, (m4 : Int) - 1⟩], by go_num, by omega, by simp [HLK.out], fun x hx => ?_, by rw [row_append, List.length_append]; simpa [row] using O1.out, B1.out⟩
        simp only [List.mem_append, List.mem_singleton] at hx
        rcases hx with hx | rfl
        · exact HI.out x hx
        · exact ⟨HV.out, ⟨by simp only []; omega, by simp only []; omega⟩, ⟨by simp only []; omega, by simp only []; omega⟩, ⟨by simp only []; omega, by simp only []; omega⟩, ⟨by simp only []; omega, by simp only []; omega⟩⟩
      case measure => simp [intOf]; omega
    · obtain ⟨ca, cc, rfl, hC⟩ := came_own HO.out
      have CC := hid hC
      have hll : l.length ≤ maxLen := by have := HLK.out; simp only [maxLen]; omega
      have LL := hid hll
      clear hC hll
      obtain ⟨wq, hwq⟩ : ∃ wq, wq = wr := ⟨wr, rfl⟩
      subst hwq
      go_wp2
      go_loopw [3] (fun nv wx => ∃ n : Int, nv = .int .i64 n ∧ -1 ≤ n ∧ n ≤ 7 ∧ Below wq.heap.size wq wx) (fun n _ => (7 - intOf n).toNat)
      case atStart => exact ⟨-1, rfl, by decide, by decide, Below.refl _ _⟩
      case round =>
        obtain ⟨n, rfl, hn1, hn2, hB2⟩ := hrel
        have B2 := hid hB2
        clear hB2
        by_cases hn : n < 7
        · go_wp2_with fail
          refine (play_walk n ca cc l LL.out HI.out _ (CC.out.below B2.out)).mono ?_
          rintro e w5 ⟨rfl, h5⟩
          have B5 := hid (B2.out.trans (h5.mono B2.out.size))
          clear h5
          go_wp2
          go_roundw
          case rel => exact ⟨n + 1, by go_num, by omega, by omega, B5.out⟩
          case measure => simp [intOf]; omega
        · go_wp2_with fail
          refine (newIH 1048576 _).mono ?_
          rintro e w5 ⟨F, pa, rfl, h5⟩
          have B5 := hid ((HB.out.trans (B2.out.mono HB.out.size)).trans (h5.bel.mono (Nat.le_trans HB.out.size B2.out.size)))
          obtain ⟨uv, bv, hr1, -⟩ := h5.is
          obtain ⟨hpl, p0, -, -⟩ := hr1.cells
          simp only [] at p0
          rw [show most0 1048576 = 65536 from rfl] at p0
          have P0 := hid p0
          clear h5 hr1 p0
          go_wp2_with fail
          refine (placesI pa ⟨65536, [], []⟩ _ P0.out).mono ?_
          rintro e w6 ⟨rfl, rfl⟩
          go_wp2_with fail
          refine (known_any _).mono ?_
          rintro e w7 ⟨rfl, h7⟩
          have B7 := hid (B5.out.trans (h7.mono B5.out.size))
          clear h7
          go_wp2
          go_ret
          exact ⟨rfl, B7.out⟩

set_option maxRecDepth 100000 in
theorem poolNumbers_lifted (os : Os) (started : os.Started) (H : Type) (enc : TypeId × Value → H) :
    ReturnsInHanded {} Try.checked os 3 .any (Rows.poolNumbersSpec.pre6 enc Try.prog Try.f3 Rows.poolNumbersRow.domain false) (Rows.poolNumbersSpec.post enc Try.prog Try.f3 false true false false) := by
  refine returnsInHanded_of_change (C := Try.checked) own' started (by kernel_rfl) Try.func3
    (ChangeSpec.witness6 (enc := enc) (C := Try.checked) false ⟨#[], #[], []⟩ 8 (by kernel_rfl) (by kernel_rfl) (by kernel_rfl) (by kernel_rfl)) ?_
  intro W base args ds gs before hval0 hW hcnd _
  have hW' := hW
  obtain ⟨p, q, hA0, hV, rfl, hfz, hnd⟩ := hW
  have hA : DataW.TrodAll enc Try.prog W 0 (fun _ => true) true Try.f3.params.toList args.toList ds p := hA0
  rw [Try.params3] at hA
  obtain ⟨hargs, rfl, rfl⟩ := trodAll_nil hA
  obtain rfl : args = #[] := by cases args; simp_all
  obtain ⟨rfl, rfl⟩ := trodVars_none hV
  clear hA0 hval0
  refine (numbers_walk W).mono fun e W' ⟨he, bel⟩ => ?_
  subst he
  exact ⟨_, rfl, _, _, _, [], [], [], hW', trodAll_mk1 (shut_bool Try.underlying4 _), trodAll_mk0, rfl, bel.frame _, fun h => by cases h⟩

theorem poolNumbers_holds : Rows.PoolNumbersSaid :=
  OpenClaim.holds_of_wide 3 Try.f3 rfl rfl rfl rfl rfl rfl rfl ⟨rfl, rfl, rfl, rfl, rfl⟩ rfl rfl rfl rfl rfl (by kernel_rfl) Try.func3 (by kernel_rfl)
    (of_decide_eq_true (by kernel_rfl)) (by unfold Func.isWrapper; first | (rw [if_pos (by decide +kernel)]; kernel_rfl) | (rw [if_neg (by decide +kernel)]; exact ⟨rfl, rfl⟩))
    (fun os started H enc _ => poolNumbers_lifted os started H enc)
#print axioms poolNumbers_holds
end Go.Proofs.Ytliabapopgeieaa
