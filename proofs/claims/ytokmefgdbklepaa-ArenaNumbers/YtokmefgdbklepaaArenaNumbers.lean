/- ArenaNumbers returns true, and nothing that was there has turned: chapter 5's runs, arenas of each size, full, cells given back in each order, cells and fields that are none. -/
import Derived.Test.YtokmefgdbklepaaArenaPlays
namespace Go.Proofs.Ytokmefgdbklepaa
open Go.ChangeShapes Go.WideShapes Go.ChangeAt Go.RowKit

theorem news1 (W : World) (o : Obj) (cs : Array Value) (t : TypeId) : ∀ j u, cs.toList[j]? = some u → ((W.alloc o).alloc (.cells cs t)).cell? ((⟨W.heap.size + 1, 0, none⟩ : Addr).add j) = some u := by
  have := World.news_of_block (heap_alloc_new (W.alloc o) (.cells cs t))
  simpa using this

/-- the kinds of twelve asks -/
theorem kinds_cell (w : World) (m : Nat) (h : m < 12) : ∃ v : Int, (w.alloc (.cells #[.int .i64 0, .int .i64 3, .int .i64 5, .int .i64 0, .int .i64 7, .int .i64 2, .int .i64 1, .int .i64 4, .int .i64 6, .int .i64 0, .int .i64 2, .int .i64 3] 3)).cell? ⟨w.heap.size, m, none⟩ = some (.int .i64 v) := by
  have hb := heap_alloc_new w (.cells #[.int .i64 0, .int .i64 3, .int .i64 5, .int .i64 0, .int .i64 7, .int .i64 2, .int .i64 1, .int .i64 4, .int .i64 6, .int .i64 0, .int .i64 2, .int .i64 3] 3)
  match m, h with
  | 0, _ => exact ⟨0, blk_cell hb rfl⟩
  | 1, _ => exact ⟨3, blk_cell hb rfl⟩
  | 2, _ => exact ⟨5, blk_cell hb rfl⟩
  | 3, _ => exact ⟨0, blk_cell hb rfl⟩
  | 4, _ => exact ⟨7, blk_cell hb rfl⟩
  | 5, _ => exact ⟨2, blk_cell hb rfl⟩
  | 6, _ => exact ⟨1, blk_cell hb rfl⟩
  | 7, _ => exact ⟨4, blk_cell hb rfl⟩
  | 8, _ => exact ⟨6, blk_cell hb rfl⟩
  | 9, _ => exact ⟨0, blk_cell hb rfl⟩
  | 10, _ => exact ⟨2, blk_cell hb rfl⟩
  | 11, _ => exact ⟨3, blk_cell hb rfl⟩

set_option maxHeartbeats 4000000 in
theorem numbers_walk (w : World) : Calls Try.prog 3 #[] w fun e w' => e = .returned (.bool true) ∧ Below w.heap.size w w' := by
  obtain ⟨ti, hti, hz0, hz1, hz2⟩ := info_parts info25
  have HT := hid hti
  have Z0 := hid hz0
  have Z1 := hid hz1
  have Z2 := hid hz2
  clear hti hz0 hz1 hz2
  go_enter Try.func3, Try.ntmps3
  go_wp2
  go_loopw [1, 2] (fun lv iv wr => ∃ (k : Nat) (l : List Ask), iv = .int .i64 k ∧ k ≤ 110 ∧ l.length = k ∧ wr.ownsRow w.heap.size 25 4 lv l.length (row ask4 l) ∧ Below w.heap.size w wr) (fun _ i _ => 110 - (intOf i).toNat)
  case atStart => exact ⟨0, [], rfl, by decide, rfl, ⟨rfl, Or.inl ⟨rfl, rfl⟩⟩, Below.refl _ _⟩
  case round =>
    obtain ⟨k, l, rfl, hk, hlk, hO, hB⟩ := hrel
    have HO := hid hO
    have HB := hid hB
    have HLK := hid hlk
    clear hO hB hlk
    by_cases hlt : k < 110
    · obtain ⟨m, hm⟩ : ∃ m : Nat, (k : Int) % 12 = (m : Int) := ⟨k % 12, by omega⟩
      obtain ⟨m5, hm5⟩ : ∃ m : Nat, ((k : Int) * 5) % 11 = (m : Int) := ⟨(k * 5) % 11, by omega⟩
      have hm12 : m < 12 := by omega
      have hm50 : m5 < 11 := by omega
      obtain ⟨v, hcell⟩ := kinds_cell wr m hm12
      go_wp2_with (at_builtin; refine wpList_append_own _ rfl (.tmp 9) (.tmp 24) 22 rfl w.heap.size 25 ti _ 4 32 Try.underlying22 HT.out Z0.out Z1.out Z2.out rfl (by decide) u1 l.length (row ask4 l) rfl ((HO.out.alloc _).alloc _) ⟨wr.heap.size + 1, 0, none⟩ 1 1 (ask4 ⟨v, (m5 : Int) - 1, m, (k : Int) - 4⟩) rfl rfl (news1 wr _ #[.int .i64 v, .int .i64 ((m5 : Int) - 1), .int .i64 m, .int .i64 ((k : Int) - 4)] 25) (ask4_one _) (by have := HLK.out; simp [maxLen]; omega) (by have := HLK.out; omega) (by have := HB.out.size; simp; omega) ?_; intro v' w' ho hg hn; have O1 := hid ho; have B1 := hid (((HB.out.alloc HB.out.size _).alloc (by have := HB.out.size; simp; omega) _).grown hg (by have := HB.out.size; simp; omega) (fun k hk => (HO.out.lt k hk).1)); clear ho hg hn hcell)
      go_roundw
      case rel => exact ⟨k + 1, l ++ [⟨v, (m5 : Int) - 1, m, (k : Int) - 4⟩], by go_num, by omega, by simp [HLK.out], by rw [row_append, List.length_append]; simpa [row] using O1.out, B1.out⟩
      case measure => simp [intOf]; omega
    · obtain ⟨ca, cc, rfl, hC⟩ := came_own HO.out
      have CC := hid hC
      clear hC
      obtain ⟨wq, hwq⟩ : ∃ wq, wq = wr := ⟨wr, rfl⟩
      subst hwq
      go_wp2
      go_loopw [3] (fun nv wx => ∃ n : Int, nv = .int .i64 n ∧ -1 ≤ n ∧ n ≤ 9 ∧ Below wq.heap.size wq wx) (fun n _ => (9 - intOf n).toNat)
      case atStart => exact ⟨-1, rfl, by decide, by decide, Below.refl _ _⟩
      case round =>
        obtain ⟨n, rfl, hn1, hn2, hB2⟩ := hrel
        have B2 := hid hB2
        clear hB2
        by_cases hn : n < 9
        · go_wp2_with fail
          refine (play_walk n ca cc l _ (CC.out.below B2.out)).mono ?_
          rintro e w5 ⟨rfl, h5⟩
          have B5 := hid (B2.out.trans (h5.mono B2.out.size))
          clear h5
          go_wp2
          go_roundw
          case rel => exact ⟨n + 1, by go_num, by omega, by omega, B5.out⟩
          case measure => simp [intOf]; omega
        · go_wp2_with fail
          refine (newAH 1048576 _).mono ?_
          rintro e w5 ⟨F, pa, pm, rfl, h5⟩
          have B5 := hid ((HB.out.trans (B2.out.mono HB.out.size)).trans (h5.bel.mono (Nat.le_trans HB.out.size B2.out.size)))
          have H5 := hid h5
          clear h5
          go_wp2_with fail
          refine (cellsA pa pm _ F _ H5.out.is).mono ?_
          rw [show (st0 1048576).most = 65536 from rfl]
          rintro e w6 ⟨rfl, rfl⟩
          clear H5
          go_wp2_with fail
          refine (known_any _).mono ?_
          rintro e w7 ⟨rfl, h7⟩
          have B7 := hid (B5.out.trans (h7.mono B5.out.size))
          clear h7
          go_wp2
          go_ret
          exact ⟨rfl, B7.out⟩

set_option maxRecDepth 100000 in
theorem arenaNumbers_lifted (os : Os) (started : os.Started) (H : Type) (enc : TypeId × Value → H) :
    ReturnsInHanded {} Try.checked os 3 .any (Rows.arenaNumbersSpec.pre6 enc Try.prog Try.f3 Rows.arenaNumbersRow.domain false) (Rows.arenaNumbersSpec.post enc Try.prog Try.f3 false true false false) := by
  refine returnsInHanded_of_change (C := Try.checked) own' started (by kernel_rfl) Try.func3
    (ChangeSpec.witness6 (enc := enc) (C := Try.checked) false ⟨#[], #[], []⟩ 8 (by kernel_rfl) (by kernel_rfl) (by kernel_rfl) (by kernel_rfl)) ?_
  intro W base args ds gs before hval0 hW hcnd _
  have hW' := hW
  obtain ⟨p, q, hA0, hV, rfl, hfz, hnd⟩ := hW
  have hA : DataW.TrodAll enc Try.prog W 0 (fun _ => true) true Try.f3.params.toList args.toList ds p := hA0
  rw [Try.params3] at hA
  obtain ⟨hargs, rfl, rfl⟩ := trodAll_nil hA
  obtain rfl : args = #[] := by cases args; simp_all
  obtain ⟨rfl, rfl⟩ := trodVars_none hV
  clear hA0 hval0
  refine (numbers_walk W).mono fun e W' ⟨he, bel⟩ => ?_
  subst he
  exact ⟨_, rfl, _, _, _, [], [], [], hW', trodAll_mk1 (shut_bool Try.underlying4 _), trodAll_mk0, rfl, bel.frame _, fun h => by cases h⟩

theorem arenaNumbers_holds : Rows.ArenaNumbersSaid :=
  OpenClaim.holds_of_wide 3 Try.f3 rfl rfl rfl rfl rfl rfl rfl ⟨rfl, rfl, rfl, rfl, rfl⟩ rfl rfl rfl rfl rfl (by kernel_rfl) Try.func3 (by kernel_rfl)
    (of_decide_eq_true (by kernel_rfl)) (by unfold Func.isWrapper; first | (rw [if_pos (by decide +kernel)]; kernel_rfl) | (rw [if_neg (by decide +kernel)]; exact ⟨rfl, rfl⟩))
    (fun os started H enc _ => arenaNumbers_lifted os started H enc)
#print axioms arenaNumbers_holds
end Go.Proofs.Ytokmefgdbklepaa
