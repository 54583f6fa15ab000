/- The document's arena: the walks of its fresh and its Give. -/
import Derived.Test.YtokmefgdbklepaaRg
import Derived.Deep.OwnRows
import Derived.Deep.Onto
namespace Go.Proofs.Ytokmefgdbklepaa
open Go.ChangeShapes Go.WideShapes Go.ChangeAt Go.RowKit

/-- ten new numbers -/
theorem make10 : ∃ cur : Array Value, cur = (ten cl0).toArray ∧ ∀ W : World, (Instr.makeSlice 41 (.int .i64 10) (.int .i64 10)).run Try.prog W = .ok (.slice (some ⟨W.heap.size, 0, none⟩) 10 10) (W.alloc (.cells cur 2)) :=
  ⟨madeCells #[.int .i64 0] 10, by kernel_rfl, fun W => run_make_row' (P := Try.prog) 41 2 (.int .i64 0) 8 Try.underlying41 info2 rfl .i64 .i64 10 (by decide) (by decide) W⟩

theorem mix_skip {k : Nat} (x : Nat → Int) (h : fr k = x k) : mix (k + 1) x = mix k x := by
  funext j
  unfold mix
  by_cases e : j = k
  · subst e; simp [h]
  · by_cases h' : j < k
    · rw [if_pos h', if_pos (by omega)]
    · rw [if_neg h', if_neg (by omega)]

set_option maxHeartbeats 2000000 in
theorem freshR (w : World) : Calls Try.prog 37 #[] w fun e w' => e = .returned (.slice (some ⟨w.heap.size, 0, none⟩) 10 10) ∧ (∀ b, w'.heap[w.heap.size]? = some (.cells (ten (fr, b)).toArray 2 (0, 0))) ∧ Kept (fun _ => False) w w' ∧ w.heap.size < w'.heap.size := by
  obtain ⟨cur, hcur, MK⟩ := make10
  have HC := hid hcur
  clear hcur
  go_enter Try.func37, Try.ntmps37
  go_wp2_with fail
  go_loopw [2] (fun kv wr => ∃ k : Nat, kv = .int .i64 k ∧ k ≤ 10 ∧ wr.heap[w.heap.size]? = some (.cells (ten (mix k (fun _ => 0), false)).toArray 2 (0, 0)) ∧ Kept (fun _ => False) w wr) (fun k _ => 10 - (intOf k).toNat)
  case atStart => exact ⟨0, rfl, by decide, by rw [mix_zero, HC.out]; exact heap_alloc_new w _, (Kept.refl _ _).alloc _⟩
  case round =>
    obtain ⟨k, rfl, hk, hB, hK⟩ := hrel
    have KK := hid hK
    have BB := hid hB
    by_cases hlt : k < 10
    · have hc := blk_cell (j := k) hB (by simpa using ten_get (mix k (fun _ => 0), false) k hlt)
      have hf := blk_free (j := k) hB
      have hl := lt_of_block hB
      have K0 := hid hK.size
      clear hB hK hk
      rcases (by omega : k = 0 ∨ k = 1 ∨ k = 2 ∨ k = 3 ∨ k = 6 ∨ k = 9 ∨ k = 4 ∨ k = 5 ∨ k = 7 ∨ k = 8) with rfl | rfl | rfl | rfl | rfl | rfl | rfl | rfl | rfl | rfl
      iterate 6
        focus
          go_wp2
          go_roundw
          case rel =>
            refine ⟨_, rfl, by decide, ?_, KK.out.setCell (Or.inr (Nat.le_refl _)) _⟩
            rw [blk_set BB.out, ← mix_step]
            congr 2
          case measure => simp [intOf]
      all_goals
        go_wp2
        go_roundw
        case rel => exact ⟨_, rfl, by decide, by rw [mix_skip _ (by decide)]; exact BB.out, KK.out⟩
        case measure => simp [intOf]
    · obtain rfl : k = 10 := by omega
      have hl := lt_of_block hB
      clear hB hK
      go_wp2
      go_ret
      exact ⟨rfl, fun b => by rw [BB.out, ten_mix]; rfl, KK.out, hl⟩

/-- a row appended to a row -/
theorem append_row (w : World) (base : Nat) (t ty e : TypeId) (i : TypeInfo) (z : Value) (size bytes : Nat) (ht : Try.prog.underlying t = some (.slice e)) (hi : Try.prog.info? e = some i) (hz : i.zero = some z) (hsize : i.size = size) (hby : i.bytes = bytes) (hzs : z.cells.size = size) (hsz : 0 < size)
    (v x : Value) (n m : Nat) (xs news : List Value) (hown : w.ownsRow base e size v n xs) (hx : w.ownsRow 0 e size x m news) (h1 : ∀ u ∈ news, u.oneCell' = true) (h63 : n + m ≤ maxLen) (hbytes : (n + m) * bytes ≤ 140737488355328) (hbase : base ≤ w.heap.size) :
    ∃ v' w', (Builtin.append_ #[t, t] ty #[v, x]).run Try.prog w = .ok v' w' ∧ w'.ownsRow base e size v' (n + m) (xs ++ news) ∧ w.grownBy w' v.ownBlock := by
  rcases hx.2 with ⟨rfl, rfl⟩ | ⟨g, cap, cur, rfl, _, hg, _, _, _, htake⟩
  · have hn : news = [] := List.eq_nil_of_length_eq_zero (by simpa using hx.1)
    subst hn
    exact ⟨v, w, run_append_owned_none (P := Try.prog) w base t ty e i size ht hi v n xs hown, by simpa using hown, ⟨rfl, rfl, rfl, Nat.le_refl _, fun _ _ _ => rfl⟩⟩
  · obtain ⟨v', w', hr, q1, q2, _⟩ := run_append_own (P := Try.prog) w base t ty e i z size bytes ht hi hz hsize hby hzs hsz v n xs hown ⟨g, 0, none⟩ m cap news hx.1 (hx.cells rfl) h1 h63 hbytes hbase
    exact ⟨v', w', hr, q1, q2⟩

theorem step_append_row {ops : Array Oper} {o : Oper} {a : Act} {w : World} {K : Act → World → Prop} {Q : Exit → Act → World → Prop} {E : Prop} (hgd : o.guard = none) (s y : Operand) (t : TypeId)
    (ho : o.op = .call { callee := .builtin .append, args := #[s, y], argTypes := #[t, t] })
    (base : Nat) (e : TypeId) (i : TypeInfo) (z : Value) (size bytes : Nat) (ht : Try.prog.underlying t = some (.slice e)) (hi : Try.prog.info? e = some i) (hz : i.zero = some z)
    (hsize : i.size = size) (hby : i.bytes = bytes) (hzs : z.cells.size = size) (hsz : 0 < size)
    (v x : Value) (n m : Nat) (xs news : List Value) (hs : a.eval s = v) (hy : a.eval y = x) (hown : w.ownsRow base e size v n xs) (hx : w.ownsRow 0 e size x m news) (h1 : ∀ u ∈ news, u.oneCell' = true)
    (h63 : n + m ≤ maxLen) (hbytes : (n + m) * bytes ≤ 140737488355328) (hbase : base ≤ w.heap.size)
    (h : ∀ v' w', w'.ownsRow base e size v' (n + m) (xs ++ news) → w.grownBy w' v.ownBlock → K (a.put o.dst v') w') :
    if Region.wanted o (yielded ops a.tmps) = true then Oper.wp Try.prog o a w K Q else E := by
  have hw : Region.wanted o (yielded ops a.tmps) = true := by simp [Region.wanted, hgd]
  rw [if_pos hw]
  obtain ⟨v', w', hr, h2, h3⟩ := append_row w base t o.type e i z size bytes ht hi hz hsize hby hzs hsz v x n m xs news hown hx h1 h63 hbytes hbase
  unfold Oper.wp execOp
  simp only [ho, resolve, invoke, builtin, Sem.run_bind, Sem.run_pure, Result.andThen_ok, List.map_toArray, List.map_cons, List.map_nil, hs, hy, hr]
  exact h v' w' h2 h3

theorem wpList_append_row {ops : Array Oper} {rest : List Oper} {o : Oper} {a : Act} {w : World} {Q : Exit → Act → World → Prop} (hgd : o.guard = none) (s y : Operand) (t : TypeId)
    (ho : o.op = .call { callee := .builtin .append, args := #[s, y], argTypes := #[t, t] })
    (base : Nat) (e : TypeId) (i : TypeInfo) (z : Value) (size bytes : Nat) (ht : Try.prog.underlying t = some (.slice e)) (hi : Try.prog.info? e = some i) (hz : i.zero = some z)
    (hsize : i.size = size) (hby : i.bytes = bytes) (hzs : z.cells.size = size) (hsz : 0 < size)
    (v x : Value) (n m : Nat) (xs news : List Value) (hs : a.eval s = v) (hy : a.eval y = x) (hown : w.ownsRow base e size v n xs) (hx : w.ownsRow 0 e size x m news) (h1 : ∀ u ∈ news, u.oneCell' = true)
    (h63 : n + m ≤ maxLen) (hbytes : (n + m) * bytes ≤ 140737488355328) (hbase : base ≤ w.heap.size)
    (h : ∀ v' w', w'.ownsRow base e size v' (n + m) (xs ++ news) → w.grownBy w' v.ownBlock → wpList Try.prog ops Q rest (a.put o.dst v') w') : wpList Try.prog ops Q (o :: rest) a w := by
  refine wpList_plain hgd fun _ hK => ?_
  obtain ⟨v', w', hr, h2, h3⟩ := append_row w base t o.type e i z size bytes ht hi hz hsize hby hzs hsz v x n m xs news hown hx h1 h63 hbytes hbase
  unfold Oper.wp execOp
  simp only [ho, resolve, invoke, builtin, Sem.run_bind, Sem.run_pure, Result.andThen_ok, List.map_toArray, List.map_cons, List.map_nil, hs, hy, hr]
  exact hK _ _ (h v' w' h2 h3)

theorem emp0 (W : World) : (W.alloc (.cells #[] 3)).ownsRow W.heap.size 3 1 (.slice (some ⟨W.heap.size, 0, none⟩) 0 0) 0 [] := World.ownsRow_made (e := 3) (size := 1) W #[] 0 (Nat.le_refl _) (Nat.zero_le _) rfl
theorem emp1 (W : World) : ((W.alloc (.cells #[] 3)).drew).ownsRow W.heap.size 3 1 (.slice (some ⟨W.heap.size, 0, none⟩) 0 0) 0 [] := World.ownsRow_made (e := 3) (size := 1) W #[] 0 (Nat.le_refl _) (Nat.zero_le _) rfl
theorem emp2 (W : World) (o : Obj) : (((W.alloc (.cells #[] 3)).alloc o).drew).ownsRow W.heap.size 3 1 (.slice (some ⟨W.heap.size, 0, none⟩) 0 0) 0 [] := World.ownsRow.alloc (World.ownsRow_made (e := 3) (size := 1) W #[] 0 (Nat.le_refl _) (Nat.zero_le _) rfl) o
theorem emp3 (W : World) (o : Obj) : (((W.alloc o).alloc (.cells #[] 3)).drew).ownsRow W.heap.size 3 1 (.slice (some ⟨W.heap.size + 1, 0, none⟩) 0 0) 0 [] := by
  have := World.ownsRow_made (base := W.heap.size) (e := 3) (size := 1) (W.alloc o) #[] 0 (by simp) (Nat.zero_le _) rfl
  have e : (W.alloc o).heap.size = W.heap.size + 1 := by simp
  rw [e] at this
  exact this
theorem lit1 {w : World} {B : Nat} {u : Value} (h : w.heap[B]? = some (.cells #[u] 3)) : w.ownsRow 0 3 1 (.slice (some ⟨B, 0, none⟩) 1 1) 1 [u] := ⟨rfl, Or.inr ⟨B, 1, #[u], rfl, Nat.zero_le _, h, Nat.le_refl _, by decide, rfl, rfl⟩⟩
theorem k1 (W : World) (o : Obj) : Kept (fun _ => False) W (W.alloc o).drew := ((Kept.refl _ _).alloc _).drew
theorem k2 (W : World) (o o' : Obj) : Kept (fun _ => False) W ((W.alloc o).alloc o').drew := (((Kept.refl _ _).alloc _).alloc _).drew
theorem new_at1 (W : World) (o o' : Obj) : ((W.alloc o).alloc o').drew.heap[W.heap.size + 1]? = some o' := by
  have := heap_alloc_new (W.alloc o) o'
  have e : (W.alloc o).heap.size = W.heap.size + 1 := by simp
  rw [e] at this
  exact this
theorem new_at0 (W : World) (o o' : Obj) : ((W.alloc o).alloc o').drew.heap[W.heap.size]? = some o := (Below.heap_alloc (W.alloc o) o' W.heap.size (by simp)).trans (heap_alloc_new W o)


/-- the row of those given back, laid anew -/
theorem RawR.setBack {w : World} {pr : Nat} {fv iv bv nb : Value} {gs : List Nat} {s : St} {bk : List Nat} (h : RawR w pr fv iv bv gs s) (hb : w.ownsRow 0 3 1 nb bk.length (row nat1 bk)) :
    RawR (w.setCell ⟨pr, 3, none⟩ nb) pr fv iv nb gs ⟨s.most, s.pl, bk, s.steps⟩ := by
  refine ⟨?_, ownsRow_setCell_other h.fs (own_ne_block h.fs h.blk (by decide)) _, ownsRow_setCell_other h.ins (own_ne_block h.ins h.blk (by decide)) _, ownsRow_setCell_other hb (own_ne_block hb h.blk (by decide)) _, h.len, fun i g x hg hx => blk_other (h.cells i g x hg hx) (blk_ne (h.cells i g x hg hx) h.blk (by decide)), h.once⟩
  have := blk_set (j := 3) (u := nb) h.blk
  simpa using this

set_option maxHeartbeats 4000000 in
theorem giveR (pr : Nat) (s : St) (F : Nat → Prop) (c : Int) (w : World) (h : IsR w F pr s) (hs : s.steps ≤ 1000000) :
    Calls Try.prog 23 #[.pointer (some ⟨pr, 0, none⟩), .int .i64 c] w fun e w' => e = .returned (.bool (liveS s c)) ∧ IsR w' (Grow F w w') pr (giveS s c) ∧ Kept F w w' := by
  have OK := hid (h.ok.give (c := c))
  have FL := hid h.lt
  obtain ⟨hpr, h4, hz, -⟩ := h.steps
  have T := hid h.ticked
  clear h
  go_enter Try.func23, Try.ntmps23
  go_wp2_with fail
  refine (liveR pr (tick s) F c _ T.out.1).mono ?_
  rw [live_tick]
  rintro e w1 ⟨rfl, rfl⟩
  clear h4 hz
  cases hl : liveS s c with
  | false =>
    have E := hid (give_no hl)
    have M := hid hl
    clear hl
    go_wp2
    go_ret
    rw [E.out]
    exact ⟨ret_bool M.out.symm, T.out.1.widen (fun _ e => Or.inl e) (Grow.lt FL.out T.out.2.size), T.out.2⟩
  | true =>
    obtain ⟨hc0, x, hx⟩ := live_iff.1 hl
    have E := hid (give_yes hl hx)
    have M := hid hl
    obtain ⟨fv, iv, bv, gs, hr, f1, f2, f3, f4, f5, f6, ok⟩ := T.out.1
    have hx' : (tick s).pl[c.toNat]? = some (x, true) := hx
    obtain ⟨b, cap, rfl, hb, hfz, hbc⟩ := own1_at hr.ins in1_len hx'
    replace hbc := hbc.trans (show (in1 (x, true))[0]? = some (.bool true) from rfl)
    obtain ⟨hp', k0, k1, k2, k3, k4⟩ := hr.fields
    have hlt : c.toNat < s.pl.length := (List.getElem?_eq_some_iff.1 hx).1
    have hlen : s.pl.length ≤ 65536 := Nat.le_trans ok.fits ok.top
    have hbl : s.back.length ≤ 65536 := Nat.le_trans ok.back_le hlen
    have hcl : c < (s.pl.length : Int) := by omega
    have hbp : b ≠ pr := fun e => own_ne_block hr.ins hr.blk (by decide) (by rw [e]; rfl)
    have hpb : pr ≠ b := fun e => hbp e.symm
    have hzb := hfz c.toNat
    have HS := hid (hr.marked hx' false)
    have KK := hid T.out.2
    have F2 := hid f2
    have F3 := hid f3
    have F4 := hid f4
    have F5 := hid f5
    have F6 := hid f6
    obtain ⟨ti, hti, hz0, hz1, hz2⟩ := info_parts info3
    have HT := hid hti
    have Z0 := hid hz0
    have Z1 := hid hz1
    have Z2 := hid hz2
    have HN := hid (show c = (c.toNat : Int) by omega)
    replace k2 : (w.setCell ⟨pr, 4, none⟩ (.int .i64 ((s.steps : Int) + 1))).cell? ⟨pr, 2, none⟩ = some (.slice (some ⟨b, 0, none⟩) s.pl.length cap) := k2
    have kz := blk_free (j := 3) hr.blk
    obtain ⟨ba, bc, rfl⟩ := own_form hr.back
    clear hr k0 k1 k4 f2 f3 f4 f5 f6 ok hx hx' hl hlt hfz hti hz0 hz1 hz2 T
    generalize w.setCell ⟨pr, 4, none⟩ (.int .i64 ((s.steps : Int) + 1)) = w2 at *
    have hsz : (w2.setCell ⟨b, c.toNat, none⟩ (.bool false)).heap.size = w2.heap.size := by simp [World.setCell]
    have hpx : (w2.setCell ⟨b, c.toNat, none⟩ (.bool false)).heap[pr]? = w2.heap[pr]? := Below.heap_setCell _ _ _ _ hpb
    have EM : Hid (((w2.setCell ⟨b, c.toNat, none⟩ (.bool false)).alloc (.cells #[] 3)).ownsRow w2.heap.size 3 1 (.slice (some ⟨w2.heap.size, 0, none⟩) 0 0) 0 []) := by
      have q := emp0 (w2.setCell ⟨b, c.toNat, none⟩ (.bool false))
      rw [hsz] at q
      exact q
    have HSZ := hid hsz
    have HPX := hid hpx
    have KW := hid ((Kept.refl F w2).setCell (p := ⟨b, c.toNat, none⟩) (Or.inl (F3.out b rfl)) (.bool false))
    clear hsz hpx
    go_wp2_with (at_builtin; first
      | (refine wpList_append_row rfl (.tmp 23) (.tmp 27) 23 rfl w2.heap.size 3 ti _ 1 8 Try.underlying23 HT.out Z0.out Z1.out Z2.out rfl (by decide) (.slice (some ⟨w2.heap.size, 0, none⟩) 0 0) (.slice ba s.back.length bc) 0 s.back.length [] (row nat1 s.back) rfl rfl EM.out (World.ownsRow.alloc HS.out.back _) (row_one nat1_one _) (by simp [maxLen]; omega) (by omega) (by simp) ?_; intro v3 w3 ho3' hg3; have ho3 : w3.ownsRow w2.heap.size 3 1 v3 s.back.length (row nat1 s.back) := (by have q := ho3'; rw [Nat.zero_add, List.nil_append] at q; exact q); have K3 : Kept (fun _ => False) (w2.setCell ⟨b, c.toNat, none⟩ (.bool false)) w3 := Kept.grown ((Kept.refl _ _).alloc _) hg3 (fun k hk => Or.inr (by cases hk; simp)); have O3 := hid ho3; have KK3 := hid K3; obtain ⟨va, vc, rfl⟩ := own_form ho3; clear ho3 ho3' hg3 K3 k2 hbc hzb)
      | (refine wpList_append_lies _ rfl (.tmp 28) (.tmp 30) 23 rfl w2.heap.size 3 ti _ 1 8 Try.underlying23 HT.out Z0.out Z1.out Z2.out rfl (by decide) (.slice va s.back.length vc) s.back.length (row nat1 s.back) rfl (World.ownsRow.alloc O3.out _) ⟨w3.heap.size, 0, none⟩ 1 1 [.int .i64 c] rfl rfl (World.news_of_block (heap_alloc_new w3 _)) (by simp [Value.oneCell']) (by decide) (by simp [maxLen]; omega) (by omega) (by have := KK3.out.size; have q := HSZ.out; simp; omega) (w3.heap.size + 1) (by simp) ?_; intro g4 cap4 w4 ho4 hg4 hat4 hlt4; have K4 : Kept (fun _ => False) (w2.setCell ⟨b, c.toNat, none⟩ (.bool false)) w4 := Kept.grown (KK3.out.alloc _) hg4 (fun k hk => Or.inr (by rw [HSZ.out]; exact (O3.out.lt k hk).1)); have e3 := ((World.cell?_of_block (a := ⟨pr, 3, none⟩) ((K4.block pr (by rw [HSZ.out]; exact hp') fun e => e).trans HPX.out))).trans k3; have e4 := ((World.frozen?_of_block (a := ⟨pr, 3, none⟩) ((K4.block pr (by rw [HSZ.out]; exact hp') fun e => e).trans HPX.out))).trans kz; have hp4 : pr < w4.heap.size := Nat.lt_of_lt_of_le hp' (by have q := K4.size; rw [HSZ.out] at q; exact q); have O4 := hid ho4; have KK4 := hid K4; have G4 := hid (ho4.lt g4 rfl); clear ho4 hg4 hat4 hlt4 K4 k3 kz))
    go_ret
    have R4 := HS.out.plain KK4.out
    have hbk : w4.ownsRow 0 3 1 (.slice (some ⟨g4, 0, none⟩) (s.back.length + 1) cap4) (s.back ++ [c.toNat]).length (row nat1 (s.back ++ [c.toNat])) := by
      have q := (O4.out).mono (Nat.zero_le _)
      rw [row_snoc, List.length_append]
      simp only [nat1, ← HN.out]
      exact q
    have R5 := R4.setBack (nb := .slice (some ⟨g4, 0, none⟩) (s.back.length + 1) cap4) hbk
    have K5 : Kept F w (w4.setCell ⟨pr, 3, none⟩ (.slice (some ⟨g4, 0, none⟩) (s.back.length + 1) cap4)) := ((KK.out.trans' KW.out).trans' (KK4.out.mono fun _ e => e.elim)).setCell (p := ⟨pr, 3, none⟩) (Or.inl f1) _
    have hOK := OK.out
    rw [E.out] at hOK ⊢
    refine ⟨ret_bool M.out.symm, ⟨_, _, _, _, R5, Or.inl f1, fun k hk => Or.inl (F2.out k hk), fun k hk => Or.inl (F3.out k hk), fun k hk => ?_, fun g hg => Or.inl (F5.out g hg), Grow.lt FL.out K5.size, hOK⟩, K5⟩
    cases hk
    exact Or.inr ⟨Nat.le_trans KK.out.size G4.out.1, by simpa [World.setCell] using G4.out.2⟩
end Go.Proofs.Ytokmefgdbklepaa
