/- The walk of PairingGreat. -/
import Derived.Test.YthfdooigljkfiabLift
import Derived.Test.YthfdooigljkfiabGi
import Derived.Test.YthfdooigljkfiabKn
import Derived.Test.YthfdooigljkfiabGl
namespace Go.Proofs.Ythfdooigljkfiab
open Go.ChangeShapes Go.WideShapes Go.ChangeAt Go.RowKit
open Tr

/-- the laws' world where its own lists are not used: what the first heap holds -/
def Sg (w0 : Fm) (w : World) (pw K : Nat) (L : List (Nat × Int × Int)) : Prop := ∃ F pa pm v0 v1 s, ∃ t : Tr, ∃ sp mo : Nat, Wx w0 w F pw pa pm v0 v1 s (headr t) (-1) [] [] 0 (sp : Int) (mo : Int) ∧ Inv s t nilQ L [] ∧ (s.steps + pot s t nilQ ≤ K ∧ sp + pot s t nilQ ≤ mo ∧ mo ≤ 100 * K) ∧ s.most = 1400
theorem Sg.plain {w0 : Fm} {w w' : World} {pw K : Nat} {L : List (Nat × Int × Int)} (h : Sg w0 w pw K L) (k : Kept (fun _ => False) w w') : Sg w0 w' pw K L := by
  obtain ⟨F, pa, pm, v0, v1, s, t, sp, mo, h1, h2⟩ := h
  exact ⟨F, pa, pm, v0, v1, s, t, sp, mo, h1.plain k, h2⟩
theorem Sg.bel {w0 w : World} {pw K : Nat} {L : List (Nat × Int × Int)} (h : Sg (Fm.of w0) w pw K L) : Below w0.heap.size w0 w := by
  obtain ⟨F, pa, pm, v0, v1, s, t, sp, mo, h1, h2⟩ := h
  exact h1.kep.below (Nat.le_refl _) fun _ e => e.elim

theorem Wx.re {w0 : Fm} {w w' : World} {F : Nat → Prop} {pw pa pm : Nat} {v0 v1 : Value} {s : St} {r0 r1 : Int} {L0 L1 : List (Nat × Int × Int)} {nx sp mo : Int} (h : Wx w0 w F pw pa pm v0 v1 s r0 r1 L0 L1 nx sp mo) (k : Kept (fun _ => False) w w') :
    Wx ⟨w', fun b => F b ∨ b = pw⟩ w' F pw pa pm v0 v1 s r0 r1 L0 L1 nx sp mo ∧ ∀ b, F b ∨ b = pw → (w0.T b ∨ w0.w.heap.size ≤ b) ∧ b < w.heap.size := by
  have h3 := h.plain k
  refine ⟨⟨h3.blk, h3.is, h3.out, h3.l0, h3.l1, fun k hk => Or.inl (Or.inl hk), Or.inl (Or.inr rfl), Kept.refl _ _⟩, fun b hb => ?_⟩
  rcases hb with hb | hb
  · exact ⟨h.new b hb, h.is.lt b hb⟩
  · subst hb; exact ⟨h.pwn, h.lt⟩
theorem Wx.box {w0 : Fm} {w w' : World} {g : Nat} {F : Nat → Prop} {pw pa pm : Nat} {v0 v1 : Value} {s : St} {r0 r1 : Int} {L0 L1 : List (Nat × Int × Int)} {nx sp mo : Int} (h : Wx w0 w F pw pa pm v0 v1 s r0 r1 L0 L1 nx sp mo) (hc : w.cell? ⟨g, 2, none⟩ = none) (hg : ¬ w0.T g ∧ g < w0.w.heap.size) (k : Kept (fun b => b = g) w w') :
    Wx ⟨w', fun b => F b ∨ b = pw⟩ w' F pw pa pm v0 v1 s r0 r1 L0 L1 nx sp mo ∧ ∀ b, F b ∨ b = pw → (w0.T b ∨ w0.w.heap.size ≤ b) ∧ b < w.heap.size := by
  have hF : ¬ F g := fun q => (h.new g q).elim hg.1 fun z => by omega
  have hp : pw ≠ g := fun q => (q ▸ h.pwn).elim hg.1 fun z => by omega
  refine ⟨⟨(k.block pw h.lt hp).trans h.blk, h.is.kept k (fun b hb q => hF (q ▸ hb)), h.out, h.l0.box hc k, h.l1.box hc k, fun k hk => Or.inl (Or.inl hk), Or.inl (Or.inr rfl), Kept.refl _ _⟩, fun b hb => ?_⟩
  rcases hb with hb | hb
  · exact ⟨h.new b hb, h.is.lt b hb⟩
  · subst hb; exact ⟨h.pwn, h.lt⟩
theorem blk_two' {w : World} {g : Nat} {a b : Value} {t : TypeId} (h : w.heap[g]? = some (.cells #[a, b] t)) : w.cell? ⟨g, 0, none⟩ = some a ∧ w.cell? ⟨g, 1, none⟩ = some b ∧ w.cell? ⟨g, 2, none⟩ = none := by
  refine ⟨blk_cell h rfl, blk_cell h rfl, ?_⟩
  simp [World.cell?, h]

set_option maxHeartbeats 4000000 in
set_option maxRecDepth 100000 in
theorem great_walk (n0 how : Int) (hn0 : I64 n0) (hhow : I64 how) (a : Option Addr) (cap : Nat) (l : List Int) (W : World) (hC : Came W a 1 oneI l) :
    Calls Try.prog 4 #[.int .i64 n0, .int .i64 how, .slice a l.length cap] W fun e w' => e = .returned (.bool true) ∧ Below W.heap.size W w' := by
  have C := hid hC
  have WI0 := hid (within_any n0 hn0 1 600 (by decide) (by decide) (by decide))
  have WI1 := hid (within_any how hhow 0 3 (by decide) (by decide) (by decide))
  clear hC hn0 hhow
  go_enter Try.func4, Try.ntmps4
  go_wp2_with fail
  refine (freshW 1400 W).mono ?_
  rintro e w1 ⟨pw, rfl, s1⟩
  have S1 := hid (show Sg (Fm.of W) w1 pw 0 [] by
    obtain ⟨F, pa, pm, v0, v1, s, t, u, sp, mo, hw, hi, hk, hm⟩ := s1
    have ht : t = nilQ := hi.a.none.2 rfl
    have hu : u = nilQ := hi.b.none.2 rfl
    subst ht hu
    exact ⟨F, pa, pm, v0, v1, s, nilQ, sp, mo, ⟨hw.blk, hw.is, hw.out, hw.l0, hw.l1, hw.new, hw.pwn, hw.kep⟩, hi, hk, hm⟩)
  clear s1
  go_wp2_with fail
  refine (WI0.out _).mono ?_
  rintro e w2 ⟨kk, rfl, hk1, hk6, rfl⟩
  obtain ⟨n, rfl⟩ : ∃ n : Nat, kk = (n : Int) := ⟨kk.toNat, by omega⟩
  have hn : n ≤ 600 := by omega
  have hn1 : 1 ≤ n := by omega
  clear WI0 hk1 hk6
  go_wp2_with fail
  go_loopw [9, 10, 11, 12, 13, 14, 15] (fun iv _ _ _ _ _ _ wr => ∃ (i : Nat) (L : List (Nat × Int × Int)), iv = .int .i64 i ∧ i ≤ n ∧ L.length = i ∧ Ser L (i : Int) ∧ Sg (Fm.of W) wr pw (6000 * i) L) (fun i _ _ _ _ _ _ _ => n - (intOf i).toNat)
  case atStart => exact ⟨0, [], rfl, by omega, rfl, Ser.nil, S1.out⟩
  case round =>
    clear S1
    obtain ⟨i, L, rfl, hi, hL, hser, hs⟩ := hrel
    have S := hid hs
    have SE := hid hser
    have HLL := hid hL
    clear hs hser hL
    by_cases q : i < n
    · have q' : (i : Int) < (n : Int) := by omega
      go_upto_region 8 with fail
      go_cut [10] from 32 to 42 (fun v wx => ∃ key : Int, v = .int .i64 key ∧ -1000 ≤ key ∧ Kept (fun _ => False) wr wx)
      case first =>
        have hw1 : IntKind.i64.wrap (-(i : Int)) = -(i : Int) := IntWalk.i64_in _ (by omega)
        have hw2 : IntKind.i64.wrap ((i : Int) * 389) = (i : Int) * 389 := IntWalk.i64_in _ (by omega)
        have hr0 : (0 : Int) ≤ ((i : Int) * 389).tmod 601 := Int.tmod_nonneg _ (by omega)
        go_wp2_with fail
        refine (WI1.out _).mono ?_
        rintro e w3 ⟨r, rfl, hr1, hr3, rfl⟩
        have hr : r = 0 ∨ r = 1 ∨ r = 2 ∨ r = 3 := by omega
        rcases hr with rfl | rfl | rfl | rfl
        all_goals go_wp2
        all_goals go_meet
        all_goals exact ⟨_, rfl, by omega, (Kept.refl _ _).alloc _⟩
      case rest =>
        obtain ⟨key0, rfl, hkey0, k3⟩ := hcut
        obtain ⟨w3, rfl⟩ : ∃ w3, w3 = wc := ⟨wc, rfl⟩
        have S3 := hid (S.out.plain k3)
        clear S k3
        go_upto_region 9 with fail
        go_cut [46] from 43 to 46 (fun v wx => v = .bool (decide (i < l.length)) ∧ wx = w3)
        case first =>
          by_cases z : i < l.length
          · have z' : decide ((i : Int) < (l.length : Int)) = true := by simp; omega
            go_wp2
            go_meet
            case rel => exact ⟨by simp [z], rfl⟩
          · have z' : decide ((i : Int) < (l.length : Int)) = false := by simp; omega
            go_wp2
            go_meet
            case rel => exact ⟨by simp [z], rfl⟩
        case rest =>
          obtain ⟨rfl, e2⟩ := hcut
          have e3 := e2.symm
          clear e2
          subst e3
          go_upto_if 46 with fail
          go_cut [10] from 46 to 51 (fun v wx => ∃ key : Int, v = .int .i64 key ∧ -1000 ≤ key ∧ wx = w3)
          case first =>
            by_cases z : i < l.length
            · rw [decide_eq_true z]
              have hx : l[i]? = some l[i] := List.getElem?_eq_getElem z
              obtain ⟨bb, off, rfl, hb, hc⟩ := C.out.get S3.out.bel hx
              have c0 := hc 0 (by decide)
              simp only [Nat.mul_one, Nat.add_zero, oneI, List.getElem?_cons_zero] at c0
              have hbs : bb < w3.heap.size := Nat.lt_of_lt_of_le hb S3.out.bel.size
              generalize l[i] = ky at *
              have z' : (i : Int) < (l.length : Int) := by omega
              have h1 := Int.lt_tmod_of_pos ky (show (0 : Int) < 1000 by decide)
              clear hx hc hb
              go_wp2
              go_meet
              case rel => exact ⟨_, rfl, by omega, rfl⟩
            · rw [decide_eq_false z]
              go_wp2
              go_meet
              case rel => exact ⟨_, rfl, hkey0, rfl⟩
          case rest =>
            obtain ⟨key, rfl, hkey, e2⟩ := hcut
            have e3 := e2.symm
            clear e2 hkey0
            subst e3
            obtain ⟨F, pa, pm, v0, v1, s, t, sp, mo, hw, hin, hk, hm⟩ := S3.out
            clear S3
            have hL := HLL.out
            have hx0 : 0 ≤ nextS s := (room_iff hin.ok).2 (by rw [hin.num, hm]; simp; omega)
            obtain ⟨j, ei, h1, k7, k8, pn⟩ := new_inv hin key (i : Int) hx0
            have hx1 : 0 ≤ nextS (newS s key (i : Int)) := (room_iff h1.ok).2 (by rw [h1.num, new_most, hm]; simp; omega)
            have b20 := bts_le 10 (i + 1) (by omega)
            have NW := hid (newT key (i : Int) (Aft.start hw.is) (by omega))
            rw [ei] at NW
            simp only [Int.natCast_nonneg, decide_true] at NW
            have ST1 := hid (new_steps hx0 key (i : Int))
            have MO1 := hid ((new_most s key (i : Int)).trans hm)
            have PU := hid (fun (F1 : Nat → Prop) (wa wb : World) (ha : Aft F1 wa wb pa pm (newS s key (i : Int))) => pushC h1 hx1 (by rw [new_steps hx0]; omega) ha)
            rw [k7, k8] at PU
            obtain ⟨c0, c1, c2, c3, c4, c5, c6, c7, cf⟩ := hw.cells
            have hlt := hw.lt
            have HW := hid hw
            have HKK := hid hk
            have PN := hid pn
            clear pn
            generalize newS s key (i : Int) = s1 at *
            clear k7 k8 hw hin hk hm h1 hx0 hx1 ei hL c1 c2 c3 c4 c5 c6 c7 cf
            go_wp2_with fail
            refine NW.out.mono ?_
            rintro e w4 ⟨rfl, e4⟩
            have W4 := hid (HW.out.aft e4)
            clear c0 HW NW hlt
            generalize Grow F w3 w4 = F1 at W4
            clear e4
            have M := hid (meterA pa pm s1 F1 w4 W4.out.is)
            have T := hid (stepsA pa pm s1 F1 w4 W4.out.is)
            obtain ⟨q2, hq2⟩ : ∃ q2, q2 = s1.steps := ⟨_, rfl⟩
            rw [← hq2] at T
            have HQ := hid hq2
            have hq1 : q2 ≤ 90000010 := by rw [hq2, ST1.out]; have := HKK.out; omega
            clear hq2
            obtain ⟨c0, c1, c2, c3, c4, c5, c6, c7, cf⟩ := W4.out.cells
            have hlt := W4.out.lt
            have hout := hid W4.out.out
            clear c2 c3 c4 c5 c6 c7 cf
            go_wp2_with fail
            refine M.out.mono ?_
            rintro e wA ⟨rfl, rfl⟩
            go_wp2_with fail
            refine T.out.mono ?_
            rintro e wB ⟨rfl, rfl⟩
            clear M T
            go_wp2_with fail
            go_region_held3 (fun w' => w'.cell? ⟨pw, 0, none⟩ = some (.pointer (some ⟨pa, 0, none⟩)) ∧ w'.cell? ⟨pw, 1, none⟩ = some (.int .i64 (headr t))) (first | exact ⟨c0, c1⟩ | (simp [go_sem]; exact ⟨c0, c1⟩))
              (first
                | (go_at_call 17; refine (PU.out F1 wB _ ((Aft.start W4.out.is).plain (by first | exact Kept.refl _ _ | exact (Kept.refl _ _).drew | exact (Kept.refl _ _).drewN _))).mono ?_; rintro e w5 ⟨t', s3, rfl, e5, i3, m3, st1, st2⟩; have HIN := hid i3; have MO := hid (m3.trans MO1.out); have ST2 := hid st1; have ST := hid st2; clear i3 m3 st1 st2; replace c0 := (e5.kept.cell (p := ⟨pw, 0, none⟩) hlt hout.out).trans c0; replace c1 := (e5.kept.cell (p := ⟨pw, 1, none⟩) hlt hout.out).trans c1; have E5 := hid e5; clear e5))
            generalize hrt : headr t' = mr at *
            have HRT := hid hrt.symm
            rw [← HQ.out] at ST ST2
            clear hrt PU
            have W5 := hid (W4.out.aft E5.out)
            clear c0 c1 hout W4
            generalize Grow F1 wB w5 = G at W5
            clear E5
            obtain ⟨len1, hl1⟩ : ∃ len1 : Nat, (i : Int) + 1 = (len1 : Int) := ⟨i + 1, by omega⟩
            have hl1' : len1 = i + 1 := by omega
            have hw1 : IntKind.i64.wrap (len1 : Int) = (len1 : Int) := IntWalk.i64_in _ (by omega)
            have BMM := hid (bts_le 10 len1 (by omega))
            have BPP := hid (bts_le 10 (L.length + 1) (by have := HLL.out; omega))
            have BPE := hid (show bts (L.length + 1) = bts len1 by rw [hl1', HLL.out])
            have CO := hid (costW len1 q2 sp mo (by omega) W5.out ST2.out (by show s3.steps ≤ 100000000; have := BPP.out; have := ST.out; have := PN.out; have := HKK.out; have := ST1.out; have := HQ.out; omega) (by have := HKK.out; omega) (by have := BPE.out; have := BPP.out; have := ST.out; have := PN.out; have := HKK.out; have := ST1.out; have := HQ.out; omega))
            have hlt5 := W5.out.lt
            clear hl1'
            go_wp2_with fail
            refine CO.out.mono ?_
            rintro e w6 ⟨rfl, sp2, mo2, hs2, hm2, h6⟩
            have HS2 := hid hs2
            have HM2 := hid hm2
            clear hs2 hm2
            have W6 := hid h6
            clear CO W5 hlt5 h6
            obtain ⟨c0, c1, c2, c3, c4, c5, c6, c7, cf⟩ := W6.out.cells
            have hlt6 := W6.out.lt
            have fR := cf 1
            have kk := kept_pw w6 pw 1 (.int .i64 mr)
            have HC := hid (W6.out.wrote (r0' := mr) kk (by have b1 := blk_set (j := 1) (u := .int .i64 mr) W6.out.blk; simp at b1; exact b1) (W6.out.l0.kept kk fun _ q => q.2) (W6.out.l1.kept kk fun _ q => q.2))
            clear kk c0 c2 c3 c4 c5 c6 c7 cf hw1 W6
            go_wp2
            go_roundw
            case rel =>
              refine ⟨i + 1, L ++ [(j, key, (i : Int))], by go_num, by omega, by simp; exact HLL.out, SE.out.push j key (by omega), ?_⟩
              have e : mr = headr t' := HRT.out
              subst e
              exact ⟨G, pa, pm, v0, v1, s3, t', sp2, mo2, HC.out, HIN.out, by have := BPE.out; have := BPP.out; have := BMM.out; have := ST.out; have := PN.out; have := HKK.out; have := ST1.out; have := HQ.out; have := ST2.out; have := HS2.out; have := HM2.out; omega, MO.out⟩
            case measure => simp [intOf]; omega
    · have q' : decide ((i : Int) < (n : Int)) = false := by simp; omega
      obtain rfl : i = n := by omega
      obtain ⟨w5, rfl⟩ : ∃ w5, w5 = wr := ⟨wr, rfl⟩
      obtain ⟨F, pa, pm, v0, v1, s, t, sp, mo, hw, hin, hk, hm⟩ := S.out
      obtain ⟨r6, rT⟩ := hw.re ((Kept.refl (fun _ => False) w5).alloc (.cells #[.int .i64 (-9223372036854775808), .int .i64 (-1)] 34))
      have hB := S.out.bel.trans (((Kept.refl (fun _ => False) w5).alloc (.cells #[.int .i64 (-9223372036854775808), .int .i64 (-1)] 34)).below S.out.bel.size (fun _ e => e.elim))
      have S6 := hid (show Sg ⟨_, fun b => F b ∨ b = pw⟩ _ pw (6000 * i) L from ⟨F, pa, pm, v0, v1, s, t, sp, mo, r6, hin, hk, hm⟩)
      have HT : Hid ((∀ b, (fun b => F b ∨ b = pw) b → W.heap.size ≤ b) ∧ ¬ (fun b => F b ∨ b = pw) w5.heap.size) := hid (show (∀ b, F b ∨ b = pw → W.heap.size ≤ b) ∧ ¬ (F w5.heap.size ∨ w5.heap.size = pw) from ⟨fun b hb => (rT b hb).1.elim (fun e => e.elim) id, fun q => by have := (rT _ q).2; omega⟩)
      have hblk := hid (heap_alloc_new w5 (.cells #[.int .i64 (-9223372036854775808), .int .i64 (-1)] 34))
      have HW5 := hid S.out.bel.size
      have HB := hid hB
      clear S hw hin hk hm r6 rT hB
      generalize (fun b => F b ∨ b = pw) = T0 at S6 HT
      go_upto_region 18 with fail
      obtain ⟨g, hg⟩ : ∃ g, g = w5.heap.size := ⟨_, rfl⟩
      rw [← hg] at HT hblk HW5 ⊢
      clear hg
      generalize w5.alloc (.cells #[.int .i64 (-9223372036854775808), .int .i64 (-1)] 34) = w6 at *
      go_wp2_with fail
      go_loopw [17, 18, 19, 20, 21] (fun iv _ _ _ _ wr => ∃ (i' : Nat) (M : List (Nat × Int × Int)) (lk ls : Int) (T : Nat → Prop), iv = .int .i64 i' ∧ i' ≤ i ∧ M.length = i' ∧ Ser M (i : Int) ∧ (∀ y ∈ M, bef lk ls y.2.1 y.2.2 = true) ∧ wr.heap[g]? = some (.cells #[.int .i64 lk, .int .i64 ls] 34) ∧ (∀ b, T b → W.heap.size ≤ b) ∧ ¬ T g ∧ Below W.heap.size W wr ∧ Sg ⟨wr, T⟩ wr pw (6000 * i + 6000 * (i - i')) M) (fun i _ _ _ _ _ => (intOf i).toNat)
      case atStart => exact ⟨i, L, _, _, T0, rfl, Nat.le_refl _, HLL.out, SE.out, fun y hy => by have := (SE.out.2 y hy).2; simp [bef]; omega, hblk.out, HT.out.1, HT.out.2, HB.out, by simpa using S6.out⟩
      case round =>
        clear hblk HT HB S6 SE HLL
        obtain ⟨i', M, lk, ls, T', rfl, hi', hM, hse, hbf, hblk, hT, hTg, hB, s5⟩ := hrel
        have hgs : g < wr.heap.size := lt_of_block hblk
        by_cases hlt0 : 0 < i'
        · have hlt' : (0 : Int) < (i' : Int) := by omega
          obtain ⟨F1, pa, pm, v0, v1, s, t, sp, mo, hw, hin, hk, hm⟩ := s5
          obtain ⟨x, hx⟩ := lst_some (L := M) (fun e => by rw [e] at hM; simp at hM; omega)
          obtain ⟨j, hxi⟩ : ∃ j, x.1 = j := ⟨_, rfl⟩
          obtain ⟨hML, hk1⟩ := split_at hx
          have b20 := bts_le 10 i' (by omega)
          have B20 := hid b20
          have B1 := hid (bts_pos hlt0)
          have hen := hin.a.en x (List.mem_of_getElem? hx)
          rw [hxi] at hen
          have EN := hid hen
          have P := hid (fun w1 (k1 : Kept (fun _ => False) wr w1) => popC hin (by omega) hx (by omega) ((Aft.start hw.is).plain k1))
          rw [hxi] at P
          have MT := hid (meterA pa pm s F1 wr hw.is)
          have TS := hid (stepsA pa pm s F1 wr hw.is)
          obtain ⟨q2, hq2⟩ : ∃ q2, q2 = s.steps := ⟨_, rfl⟩
          rw [← hq2] at TS
          have HQ := hid hq2
          have hq1 : q2 ≤ 90000010 := by omega
          obtain ⟨c0, c1, c2, c3, c4, c5, c6, c7, cf⟩ := hw.cells
          have hlt := hw.lt
          have hout := hid hw.out
          have HW := hid hw
          have HK := hid hk
          have HM := hid hm
          have HX := hid hx
          have HXI := hid hxi
          have HML := hid hML
          have BK := hid hblk
          have HS := hid hse
          have HBF := hid hbf
          have HT := hid hT
          have HTG := hid hTg
          have HB := hid hB
          have HMM := hid hM
          clear hq2 hw hk hm hx hxi hML hk1 hblk hse hbf hT hTg hB hM hin hen c2 c3 c4 c5 c6 c7 cf
          go_wp2_with fail
          refine MT.out.mono ?_
          rintro e wA ⟨rfl, rfl⟩
          go_wp2_with fail
          refine TS.out.mono ?_
          rintro e wB ⟨rfl, rfl⟩
          clear MT TS
          go_wp2_with fail
          go_region_held3 (fun w' => w'.cell? ⟨pw, 0, none⟩ = some (.pointer (some ⟨pa, 0, none⟩)) ∧ w'.cell? ⟨pw, 1, none⟩ = some (.int .i64 (headr t))) (first | exact ⟨c0, c1⟩ | (simp [go_sem]; exact ⟨c0, c1⟩))
            (first
              | (go_at_call 19; refine (P.out _ (by first | exact Kept.refl _ _ | exact (Kept.refl _ _).drew | exact (Kept.refl _ _).drewN _)).mono ?_; rintro e w3 ⟨t', s3, rfl, e3, i3, m3, st1, st2, pk⟩; have HIN := hid i3; have MO := hid (m3.trans HM.out); have ST2 := hid st1; have ST := hid st2; have PK := hid pk; clear i3 m3 st1 st2 pk; replace c0 := (e3.kept.cell (p := ⟨pw, 0, none⟩) hlt hout.out).trans c0; replace c1 := (e3.kept.cell (p := ⟨pw, 1, none⟩) hlt hout.out).trans c1; have E3 := hid e3; clear e3))
          generalize hrt : headr t' = mr at *
          have HRT := hid hrt.symm
          rw [← HQ.out] at ST ST2
          clear hrt P
          have W3 := hid (HW.out.aft E3.out)
          clear c0 c1 hout HW E3 hlt
          generalize Grow F1 wB w3 = G at W3
          have BQ := hid (show bts M.length = bts i' by rw [HMM.out])
          have CO := hid (costW i' q2 sp mo (by omega) W3.out ST2.out (by have := BQ.out; have := B20.out; have := ST.out; have := HK.out; have := HQ.out; omega) (by have := HK.out; omega) (by have := BQ.out; have := B20.out; have := ST.out; have := HK.out; have := HQ.out; have := bts_pos hlt0; omega))
          have hjn : ((j : Int) == -1) = false := by simp
          go_wp2_with fail
          refine CO.out.mono ?_
          rintro e w4 ⟨rfl, sp2, mo2, hs2, hm2, h4⟩
          have HS2 := hid hs2
          have HM2 := hid hm2
          clear hs2 hm2
          have W4 := hid h4
          clear CO W3 h4
          have s3b := hid (show s3.steps ≤ 92000000 by have := BQ.out; have := B20.out; have := ST.out; have := HK.out; have := HQ.out; omega)
          have ET := hid (entryT (j : Int) (Ex.start W4.out.is) (by have := s3b.out; omega))
          have lj : LS s3 j = true := HIN.out.live
          rw [show getS s3 (j : Int) 7 = x.2.1 from (get_nat (j := 7) lj (by decide)).trans ((PK.out j).1.trans EN.out.1), show getS s3 (j : Int) 8 = x.2.2 from (get_nat (j := 8) lj (by decide)).trans ((PK.out j).2.trans EN.out.2)] at ET
          obtain ⟨c0, c1, c2, c3, c4, c5, c6, c7, cf⟩ := W4.out.cells
          have hlt4 := W4.out.lt
          clear c1 c2 c3 c4 c5 c6 c7 cf lj
          go_wp2_with fail
          refine ET.out.mono ?_
          rintro e w7 ⟨rfl, e7⟩
          have W7 := hid (W4.out.ex e7)
          clear e7 ET W4 c0 hlt4
          have B7 := hid ((W7.out.kep.block g hgs HTG.out).trans BK.out)
          have hg7 : g < w7.heap.size := lt_of_block B7.out
          have ka := (Kept.refl (fun _ => False) w7).alloc (.cells #[.int .i64 x.2.1, .int .i64 x.2.2] 34)
          obtain ⟨w8x, hT2⟩ := W7.out.re ka
          obtain ⟨T2, hT2e⟩ : ∃ T2 : Nat → Prop, T2 = fun b => G b ∨ b = pw := ⟨_, rfl⟩
          rw [← hT2e] at w8x
          have hT3 : ∀ b, T2 b → (T' b ∨ wB.heap.size ≤ b) ∧ b < w7.heap.size := fun b hb => hT2 b (by rw [hT2e] at hb; exact hb)
          have BG := hid ((ka.block g hg7 (fun e => e)).trans B7.out)
          have BE := hid (heap_alloc_new w7 (.cells #[.int .i64 x.2.1, .int .i64 x.2.2] 34))
          have T2G := hid (show ¬ T2 g from fun q => (hT3 g q).1.elim HTG.out fun z => absurd z (Nat.not_le.2 hgs))
          have T2E := hid (show ¬ T2 w7.heap.size from fun q => by have := (hT3 _ q).2; omega)
          have T2W := hid (show ∀ b, T2 b → W.heap.size ≤ b from fun b hb => (hT3 b hb).1.elim (HT.out b) fun z => Nat.le_trans HB.out.size z)
          clear hT2e hT3
          have B4 := hid ((HB.out.trans (W7.out.kep.below HB.out.size HT.out)).trans (ka.below (Nat.le_trans HB.out.size W7.out.kep.size) (fun _ e => e.elim)))
          have W8 := hid w8x
          have HGE := hid (show w7.heap.size < (w7.alloc (.cells #[.int .i64 x.2.1, .int .i64 x.2.2] 34)).heap.size by simp)
          have HG4 := hid (show g < (w7.alloc (.cells #[.int .i64 x.2.1, .int .i64 x.2.2] 34)).heap.size by simp; omega)
          clear w8x ka hT2 HT HTG HB B7 BK hg7 hgs W7
          go_upto_region 26 with fail
          generalize w7.alloc (.cells #[.int .i64 x.2.1, .int .i64 x.2.2] 34) = w8 at *
          generalize w7.heap.size = ge at *
          obtain ⟨g0, g1, _⟩ := blk_two' BG.out
          obtain ⟨e0, e1, _⟩ := blk_two' BE.out
          have hgl : g < w8.heap.size := HG4.out
          have hel : ge < w8.heap.size := HGE.out
          have BF := hid (refBefore_any lk ls x.2.1 x.2.2 w8)
          rw [HBF.out x (List.mem_of_getElem? HX.out)] at BF
          go_wp2_with fail
          refine BF.out.mono ?_
          rintro e w9 ⟨rfl, k1, k2, rfl⟩
          clear BF
          have W9 := hid (W8.out.plain (((Kept.refl _ w8).alloc (.cells k1 34)).alloc (.cells k2 34)))
          generalize (w8.alloc (.cells k1 34)).alloc (.cells k2 34) = w9 at *
          have GV := hid (giveT (j : Int) (Aft.start W9.out.is) (by show s3.steps + 2 ≤ _; have := s3b.out; omega))
          rw [show liveS (tk s3 2) (j : Int) = true from HIN.out.live] at GV
          obtain ⟨c0, _⟩ := W9.out.cells
          have hlt9 := W9.out.lt
          clear g0 g1 e0 e1 hgl hel
          go_wp2_with fail
          refine GV.out.mono ?_
          rintro e wA ⟨rfl, eA⟩
          have WA := hid (W9.out.aft eA)
          clear GV W9 c0 hlt9 eA
          generalize Grow G w9 wA = G2 at WA
          have BGA := hid ((WA.out.kep.block g HG4.out T2G.out).trans BG.out)
          have BEA := hid ((WA.out.kep.block ge HGE.out T2E.out).trans BE.out)
          have KB := hid (WA.out.kep.below B4.out.size T2W.out)
          obtain ⟨g0, g1, g2⟩ := blk_two' BGA.out
          obtain ⟨e0, e1, _⟩ := blk_two' BEA.out
          have hgA : g < wA.heap.size := lt_of_block BGA.out
          have heA : ge < wA.heap.size := lt_of_block BEA.out
          have f0 : wA.frozen? ⟨g, 0, none⟩ = false := blk_free BGA.out
          have f1 : wA.frozen? ⟨g, 1, none⟩ = false := blk_free BGA.out
          have G2' := hid g2
          obtain ⟨_, c1, _, _, _, _, _, _, cf⟩ := WA.out.cells
          have hltA := WA.out.lt
          have fR := cf 1
          have hgpw : g ≠ pw := fun z => by
            rcases WA.out.pwn with q | q
            · exact T2G.out (z ▸ q)
            · have := HG4.out; have q' : w8.heap.size ≤ pw := q; omega
          have hpwg : pw ≠ g := fun z => hgpw z.symm
          have hepw : ge ≠ pw := fun z => by
            rcases WA.out.pwn with q | q
            · exact T2E.out (z ▸ q)
            · have := HGE.out; have q' : w8.heap.size ≤ pw := q; omega
          have hpwe : pw ≠ ge := fun z => hepw z.symm
          clear g2 cf
          obtain ⟨i2, hi2⟩ : ∃ i2 : Nat, (i' : Int) - 1 = (i2 : Int) := ⟨i' - 1, by omega⟩
          have hi2w : IntKind.i64.wrap (i2 : Int) = (i2 : Int) := IntWalk.i64_in _ (by omega)
          have HI2 := hid (show i2 + 1 = i' by omega)
          go_wp2_with fail
          go_region
          go_wp2
          go_roundw
          case rel =>
            have e : mr = headr t' := HRT.out
            subst e
            have kk := kept_pw wA pw 1 (.int .i64 (headr t'))
            have WB := WA.out.wrote (r0' := headr t') kk (by have b1 := blk_set (j := 1) (u := .int .i64 (headr t')) WA.out.blk; simp at b1; exact b1) (WA.out.l0.kept kk fun _ q => q.2) (WA.out.l1.kept kk fun _ q => q.2)
            have BGB := (kk.block g hgA hgpw).trans BGA.out
            have kg : Kept (fun b => b = g) (wA.setCell ⟨pw, 1, none⟩ (.int .i64 (headr t'))) ((((wA.setCell ⟨pw, 1, none⟩ (.int .i64 (headr t'))).setCell ⟨g, 0, none⟩ (.int .i64 x.2.1)).setCell ⟨g, 1, none⟩ (.int .i64 x.2.2)).drew) := ((kept_pw _ g 0 _).trans' (kept_pw _ g 1 _)).drew
            obtain ⟨wC, hT3⟩ := WB.box (blk_two' BGB).2.2 ⟨T2G.out, HG4.out⟩ kg
            have hb2 : Below W.heap.size W (wA.setCell ⟨pw, 1, none⟩ (.int .i64 (headr t'))) := (B4.out.trans KB.out).trans (kk.below (B4.out.trans KB.out).size (fun b q => by
              rw [q]
              rcases WA.out.pwn with z | z
              · exact T2W.out pw z
              · exact Nat.le_trans B4.out.size z))
            have hpl : (popL M).length = i2 := by
              have h1 := HMM.out
              have h2 := HI2.out
              rw [popL_len (fun z => by rw [z] at h1; simp at h1; omega)]; omega
            refine ⟨i2, popL M, x.2.1, x.2.2, fun b => G2 b ∨ b = pw, rfl, by have := HI2.out; omega, hpl, HS.out.sub popL_sub, HS.out.least HX.out, ?_, fun b hb => (hT3 b hb).1.elim (T2W.out b) (fun z => Nat.le_trans B4.out.size z), fun q => (hT3 g q).1.elim T2G.out (fun z => absurd z (Nat.not_le.2 HG4.out)), ?_, ?_⟩
            · have b1 := blk_set (j := 1) (u := .int .i64 x.2.2) (blk_set (j := 0) (u := .int .i64 x.2.1) BGB)
              simp at b1
              exact b1
            · exact hb2.trans (kg.below hb2.size (fun b q => by rw [q]; exact HW5.out))
            · have hI := give_inv (HIN.out.tk 2)
              exact ⟨G2, pa, pm, v0, v1, giveS (tk s3 2) (j : Int), t', sp2, mo2, wC, hI.1, by rw [give_steps, hI.2]; show s3.steps + 2 + 1 + pot s3 t' nilQ ≤ _ ∧ sp2 + pot s3 t' nilQ ≤ _ ∧ _; have := BQ.out; have := ST.out; have := HK.out; have := HQ.out; have := ST2.out; have := HS2.out; have := HM2.out; have := HI2.out; have := B20.out; have := B1.out; omega, by rw [give_most]; exact MO.out⟩
          case measure => have := HI2.out; simp [intOf]; omega
        · obtain rfl : i' = 0 := by omega
          obtain rfl : M = [] := List.eq_nil_of_length_eq_zero hM
          obtain ⟨F1, pa, pm, v0, v1, s, t, sp, mo, hw, hin, hk, hm⟩ := s5
          have ht : t = nilQ := hin.a.none.2 rfl
          subst ht
          have LN := hid (fun w1 (k1 : Kept (fun _ => False) wr w1) => lenA pa pm s F1 w1 (hw.plain k1).is)
          rw [hin.num] at LN
          obtain ⟨c0, c1, _⟩ := hw.cells
          replace c1 : wr.cell? ⟨pw, 1, none⟩ = some (.int .i64 (-1)) := c1
          have hlt := hw.lt
          have HB := hid hB
          clear hw hin hk hm hblk hse hbf hT hTg hB hM
          go_wp2_with fail
          refine (LN.out _ (Kept.refl _ _)).mono ?_
          rintro e w7 ⟨rfl, m, rfl⟩
          simp only [List.length_nil, Nat.add_zero, Nat.mul_zero]
          go_wp2_with fail
          refine (known_any _).mono ?_
          rintro e w9 ⟨rfl, b9⟩
          have B9 := hid ((below_drewN HB.out m).trans (b9.mono HB.out.size))
          go_wp2
          go_ret
          exact ⟨rfl, B9.out⟩
end Go.Proofs.Ythfdooigljkfiab
