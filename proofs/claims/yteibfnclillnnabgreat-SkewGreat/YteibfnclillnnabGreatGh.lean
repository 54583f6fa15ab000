/- Several texts in one. -/
import Derived.Test.YteibfnclillnnabGreatGg
import Derived.Test.YteibfnclillnnabGreatGb
import Derived.Test.YteibfnclillnnabGreatGm
import Derived.Test.YteibfnclillnnabGreatGf
/- What remove does ahead of its sum: the children are tops, the node is given back. -/
namespace Go.Proofs.YteibfnclillnnabGreat
open Go.ChangeShapes Go.WideShapes Go.ChangeAt Go.RowKit
open Tr

/-- the Ups of these are taken away, and their Ranks asked for -/
def apS (s : St) (l : List Int) : St := l.foldl (fun s n => tk (setS s n 0 (-1)) 1) s
theorem ap_snoc (s : St) (l : List Int) (x : Int) : apS s (l ++ [x]) = tk (setS (apS s l) x 0 (-1)) 1 := by unfold apS; rw [List.foldl_append]; rfl
theorem ap_steps : ∀ (l : List Int) (s : St), (apS s l).steps = s.steps + 2 * l.length
  | [], s => rfl
  | x :: r, s => by
    have := ap_steps r (tk (setS s x 0 (-1)) 1)
    have h2 : (tk (setS s x 0 (-1)) 1).steps = s.steps + 2 := by show (setS s x 0 (-1)).steps + 1 = _; rw [set_steps]
    rw [h2] at this
    show (apS (tk (setS s x 0 (-1)) 1) r).steps = _
    rw [this, List.length_cons]
    omega
theorem ap_view : ∀ (l : List Bn) {s : St} (_ : Ok s), (∀ b ∈ l, LS s b.n = true) → Sm s (apS s (nds l)) ∧ ∀ c j, hasS (apS s (nds l)) c j = if j = 0 ∧ c ∈ l.map Bn.n then -1 else hasS s c j
  | [], s, ok, _ => ⟨Sm.refl ok, fun c j => by simp [apS, nds]⟩
  | b :: r, s, ok, h => by
    have m0 := Sm.set ok (b.n : Int) 0 (-1)
    have m1 := m0.trans (Sm.tk m0.ok 1)
    have v1 : hasS (tk (setS s (b.n : Int) 0 (-1)) 1) = put (hasS s) b.n 0 (-1) := set_has (j := 0) (h b (by simp)) (by decide)
    obtain ⟨m2, v2⟩ := ap_view r m1.ok (fun b hb => by rw [m1.ls]; exact h b (by simp [hb]))
    refine ⟨m1.trans m2, fun c j => ?_⟩
    show hasS (apS (tk (setS s (b.n : Int) 0 (-1)) 1) (nds r)) c j = _
    rw [v2, v1]
    by_cases q : j = 0 ∧ c ∈ r.map Bn.n
    · rw [if_pos q, if_pos ⟨q.1, by simp only [List.map_cons, List.mem_cons]; exact Or.inr q.2⟩]
    · rw [if_neg q]
      by_cases e : c = b.n
      · subst e
        by_cases z : j = 0
        · subst z
          rw [put_at, if_pos ⟨rfl, by simp⟩]
        · rw [put_nj z, if_neg (fun y => z y.1)]
      · rw [put_ne e, if_neg]
        rintro ⟨y1, y2⟩
        simp only [List.map_cons, List.mem_cons] at y2
        rcases y2 with y2 | y2
        · exact e y2
        · exact q ⟨y1, y2⟩
theorem give_ls {s : St} {c : Nat} (h : LS s c = true) : LS (giveS s (c : Int)) = fun a => if a = c then false else LS s a := by
  obtain ⟨x, hx⟩ := ls_pl h
  funext a
  unfold LS
  rw [give_yes (x := (x, true)) h (by simpa using hx)]
  unfold liveS
  simp only [Int.toNat_natCast]
  by_cases e : a = c
  · subst e
    rw [List.getElem?_set_self (ls_lt h)]
    simp
  · rw [List.getElem?_set_ne (fun q => e q.symm), if_neg e]
theorem give_has {s : St} {c : Nat} (h : LS s c = true) : hasS (giveS s (c : Int)) = hasS s := by
  obtain ⟨x, hx⟩ := ls_pl h
  funext a
  rw [give_yes (x := (x, true)) h (by simpa using hx)]
  unfold hasS
  simp only [Int.toNat_natCast]
  by_cases e : a = c
  · subst e
    rw [List.getElem?_set_self (ls_lt h), hx]
  · rw [List.getElem?_set_ne (fun q => e q.symm)]
theorem give_back {s : St} {c : Nat} (h : LS s c = true) : (giveS s (c : Int)).back = s.back ++ [c] ∧ (giveS s (c : Int)).pl.length = s.pl.length := by
  obtain ⟨x, hx⟩ := ls_pl h
  rw [give_yes (x := (x, true)) h (by simpa using hx)]
  simp
theorem gb_view {s : St} {n i : Nat} (ok : Ok s) (hn : LS s n = true) (hi : LS s i = true) (h6 : hasS s n 6 = (i : Int)) :
    Ok (gbS s (n : Int)) ∧ cnt (gbS s (n : Int)).pl + 1 = cnt s.pl ∧ (∀ c, LS (gbS s (n : Int)) c = if c = n then false else LS s c) ∧ ∀ c j, hasS (gbS s (n : Int)) c j = if c = i ∧ j = 9 then -1 else hasS s c j := by
  unfold gbS
  have c6 : cellS s (n : Int) 6 = (i : Int) := cell_nat (j := 6) ok hn (by decide) h6 hi
  rw [c6]
  have s4 := (Sm.tk ok 1).trans (Sm.set (Sm.tk ok 1).ok (i : Int) 9 (-1))
  have v4 : hasS (setS (tk s 1) (i : Int) 9 (-1)) = put (hasS s) i 9 (-1) := set_has (s := tk s 1) (j := 9) hi (by decide)
  have e4 := cnt_sm ok s4
  generalize setS (tk s 1) (i : Int) 9 (-1) = s5 at *
  have ln : LS s5 n = true := by rw [s4.ls]; exact hn
  obtain ⟨g1, g2⟩ := give_back ln
  have okg := s4.ok.give (c := (n : Int))
  refine ⟨okg, ?_, fun c => by rw [give_ls ln, s4.ls], fun c j => ?_⟩
  · have c1 := okg.count
    have c2 := s4.ok.count
    rw [g1, g2] at c1
    simp at c1
    omega
  · rw [give_has ln, v4]
    by_cases e : c = i ∧ j = 9
    · rw [if_pos e, e.1, e.2, put_at]
    · rw [if_neg e, put_or (by by_cases z : c = i; · right; exact fun y => e ⟨z, y⟩
                               · left; exact z)]

/-- what is not t -/
def but (t : Bn) (ts : List Bn) : List Bn := ts.filter fun b => b.n != t.n
theorem but_perm (g : Bn → List Nat) : ∀ {ts : List Bn} {t : Bn}, t ∈ ts → (ts.map Bn.n).Nodup → (ts.flatMap g).Perm (g t ++ (but t ts).flatMap g)
  | [], _, h, _ => by cases h
  | b :: r, t, h, hn => by
    simp only [List.map_cons, List.nodup_cons] at hn
    rcases List.mem_cons.1 h with e | h'
    · subst e
      have e : but t r = r := List.filter_eq_self.2 fun b hb => by
        have : b.n ≠ t.n := fun e => hn.1 (List.mem_map.2 ⟨b, hb, e⟩)
        simpa using this
      have e2 : but t (t :: r) = r := by unfold but at e ⊢; rw [List.filter_cons_of_neg (by simp), e]
      rw [e2, List.flatMap_cons]
    · have hne : b.n ≠ t.n := fun e => hn.1 (List.mem_map.2 ⟨t, h', e.symm⟩)
      have e2 : but t (b :: r) = b :: but t r := by unfold but; rw [List.filter_cons_of_pos (by simpa using hne)]
      rw [e2, List.flatMap_cons, List.flatMap_cons]
      have ih := but_perm g h' hn.2
      refine (List.Perm.append_left _ ih).trans ?_
      rw [← List.append_assoc, ← List.append_assoc]
      exact List.Perm.append_right _ List.perm_append_comm
theorem but_mem {t : Bn} {ts : List Bn} {b : Bn} (h : b ∈ but t ts) : b ∈ ts ∧ b.n ≠ t.n := by
  unfold but at h
  rw [List.mem_filter] at h
  exact ⟨h.1, by simpa using h.2⟩

/-- ahead of the sum -/
def rv1 (s : St) (k : Nat) (t : Bn) : St := gbS (apS (tk s k) (nds (kids t.k))) (t.n : Int)
structure Rv (s s' : St) (t : Bn) (ts : List Bn) : Prop where
  ok : Ok s'
  num : cnt s'.pl + 1 = cnt s.pl
  ls : ∀ c, LS s' c = if c = t.n then false else LS s c
  val : ∀ c j, hasS s' c j = if c = t.i ∧ j = 9 then -1 else if j = 0 ∧ c ∈ (kids t.k).map Bn.n then -1 else hasS s c j
  vb : ∀ b ∈ kids t.k ++ but t ts, Vb (LS s') (hasS s') b ∧ Gb (befF (hasS s')) b
  nd : ((kids t.k ++ but t ts).flatMap Bn.cells).Nodup
  cells : (ts.flatMap Bn.cells).Perm (t.n :: t.i :: (kids t.k ++ but t ts).flatMap Bn.cells)
  items : (ts.flatMap Bn.items).Perm (t.i :: (kids t.k ++ but t ts).flatMap Bn.items)

/-- what is a tree by itself but for the order of its top with what is below it -/
structure Gt (lt : Nat → Nat → Bool) (b : Bn) : Prop where
  kd : Kd b.k
  low : ∀ c ∈ kids b.k, Gb lt c
theorem Gb.gt {lt : Nat → Nat → Bool} {b : Bn} (h : Gb lt b) : Gt lt b := ⟨h.1, fun c hc => kids_gb h.1 h.2 c hc⟩

theorem rv_view {s : St} {t : Bn} {ts : List Bn} (k : Nat) (ok : Ok s) (hv : ∀ b ∈ ts, Vb (LS s) (hasS s) b) (hg : ∀ b ∈ ts, b.n ≠ t.n → Gb (befF (hasS s)) b) (hgt : Gt (befF (hasS s)) t) (hnd : (ts.flatMap Bn.cells).Nodup) (ht : t ∈ ts) :
    Rv s (rv1 s k t) t ts := by
  have vt := hv t ht
  have hn := flat_nodup hnd t ht
  simp only [Bn.cells, List.nodup_cons, List.mem_cons, not_or] at hn
  obtain ⟨⟨n1, n2⟩, n3, n4⟩ := hn
  have ktop : ∀ c, c ∈ (kids t.k).map Bn.n → c ∈ t.k.cells := fun c hc => by
    obtain ⟨d, hd, rfl⟩ := List.mem_map.1 hc
    rw [← kids_cells t.k]
    exact List.mem_flatMap.2 ⟨d, hd, by simp [Bn.cells]⟩
  have lk : ∀ b ∈ kids t.k, LS (tk s k) b.n = true := fun b hb => Vw.live vt.kids b.n (ktop _ (List.mem_map.2 ⟨b, hb, rfl⟩))
  obtain ⟨m1, v1⟩ := ap_view (kids t.k) (Sm.tk ok k).ok lk
  have h6 : hasS (apS (tk s k) (nds (kids t.k))) t.n 6 = (t.i : Int) := by rw [v1, if_neg (by omega)]; exact vt.item
  obtain ⟨g1, g2, g3, g4⟩ := gb_view m1.ok (by rw [m1.ls]; exact vt.ln) (by rw [m1.ls]; exact vt.li) h6
  have e0 := cnt_sm (Sm.tk ok k).ok m1
  rw [show cnt (tk s k).pl = cnt s.pl from rfl] at e0
  rw [m1.ls] at g3
  rw [show LS (tk s k) = LS s from rfl] at g3
  have hval : ∀ c j, hasS (rv1 s k t) c j = if c = t.i ∧ j = 9 then -1 else if j = 0 ∧ c ∈ (kids t.k).map Bn.n then -1 else hasS s c j := fun c j => by
    unfold rv1; rw [g4, v1]; rfl
  have hls : ∀ c, LS (rv1 s k t) c = if c = t.n then false else LS s c := g3
  have tn : (ts.map Bn.n).Nodup := tops_nodup hnd
  have pc : (ts.flatMap Bn.cells).Perm (t.n :: t.i :: (kids t.k ++ but t ts).flatMap Bn.cells) := by
    refine (but_perm Bn.cells ht tn).trans ?_
    rw [List.flatMap_append, kids_cells]
    exact List.Perm.refl _
  have pi : (ts.flatMap Bn.items).Perm (t.i :: (kids t.k ++ but t ts).flatMap Bn.items) := by
    refine (but_perm Bn.items ht tn).trans ?_
    rw [List.flatMap_append, kids_items]
    exact List.Perm.refl _
  have nd2 := pc.nodup_iff.1 hnd
  simp only [List.nodup_cons, List.mem_cons, not_or] at nd2
  have key : ∀ c, hasS (rv1 s k t) c 7 = hasS s c 7 ∧ hasS (rv1 s k t) c 8 = hasS s c 8 := fun c => ⟨by rw [hval, if_neg (by omega), if_neg (by omega)], by rw [hval, if_neg (by omega), if_neg (by omega)]⟩
  have gbk : ∀ b, Gb (befF (hasS s)) b → Gb (befF (hasS (rv1 s k t))) b := fun b h => by
    have e : befF (hasS (rv1 s k t)) = befF (hasS s) := by funext a c; exact bef_key key a c
    rw [e]; exact h
  refine ⟨g1, by unfold rv1; omega, hls, hval, fun b hb => ?_, nd2.2.2, pc, pi⟩
  rcases List.mem_append.1 hb with hb | hb
  · refine ⟨?_, gbk b (hgt.low b hb)⟩
    have hsub : ∀ c ∈ b.cells, c ∈ t.k.cells := fun c hc => by rw [← kids_cells t.k]; exact List.mem_flatMap.2 ⟨b, hb, hc⟩
    have A := kids_vb (L := LS s) (f := hasS s) (f' := hasS (rv1 s k t)) vt.kids n4 (fun b hb => by
      have hm : b.n ∈ (kids t.k).map Bn.n := List.mem_map.2 ⟨b, hb, rfl⟩
      rw [hval, if_neg (fun e : b.n = t.i ∧ (0 : Nat) = 9 => n3 (e.1 ▸ ktop _ hm)), if_pos ⟨rfl, hm⟩]) (fun c hc j hj => by
      rw [hval, if_neg (fun e : c = t.i ∧ j = 9 => n3 (e.1 ▸ hc)), if_neg (fun e : j = 0 ∧ c ∈ (kids t.k).map Bn.n => hj e.1 e.2)]) b hb
    refine A.like (fun c hc => ⟨by rw [hls, if_neg (fun e : c = t.n => n2 (e ▸ hsub c hc))], fun j _ => rfl⟩) ?_
    have h1 : ((kids t.k).flatMap Bn.cells).Nodup := by rw [kids_cells]; exact n4
    have := flat_nodup h1 b hb
    simp only [Bn.cells, List.nodup_cons, List.mem_cons, not_or] at this
    exact this.1.2
  · obtain ⟨hb1, hb2⟩ := but_mem hb
    refine ⟨(hv b hb1).like (fun c hc => ?_) ?_, gbk b (hg b hb1 hb2)⟩
    · have hne : ∀ x, x ∈ t.cells → c ≠ x := fun x hx e => hb2 (by rw [one_tree hnd hb1 ht (e ▸ hc) hx])
      refine ⟨by rw [hls, if_neg (hne t.n (by simp [Bn.cells]))], fun j _ => ?_⟩
      rw [hval, if_neg (fun e : c = t.i ∧ j = 9 => hne t.i (by simp [Bn.cells]) e.1), if_neg (fun e : j = 0 ∧ c ∈ (kids t.k).map Bn.n => hne c (by simp [Bn.cells, ktop c e.2]) rfl)]
    · have := flat_nodup hnd b hb1
      simp only [Bn.cells, List.nodup_cons, List.mem_cons, not_or] at this
      exact this.1.2
end Go.Proofs.YteibfnclillnnabGreat

/- The walk of apart: children come to be tops, the single ones apart from the others. -/
namespace Go.Proofs.YteibfnclillnnabGreat
open Go.ChangeShapes Go.WideShapes Go.ChangeAt Go.RowKit
open Tr

/-- the single ones: of Rank 0, and not the last -/
def sg : List Bn → List Bn
  | [] => []
  | b :: r => if b.rk = 0 ∧ r ≠ [] then b :: sg r else sg r
def ot : List Bn → List Bn
  | [] => []
  | b :: r => if b.rk = 0 ∧ r ≠ [] then ot r else b :: ot r
theorem sg_mem {b : Bn} : ∀ {l : List Bn}, b ∈ sg l → b ∈ l ∧ b.rk = 0
  | [], h => by simp [sg] at h
  | c :: r, h => by
    unfold sg at h
    split at h
    · next q =>
      rcases List.mem_cons.1 h with rfl | h
      · exact ⟨by simp, q.1⟩
      · have := sg_mem h; exact ⟨by simp [this.1], this.2⟩
    · have := sg_mem h; exact ⟨by simp [this.1], this.2⟩
theorem sgot_perm (g : Bn → List Nat) : ∀ l : List Bn, ((sg l).flatMap g ++ (ot l).flatMap g).Perm (l.flatMap g)
  | [] => List.Perm.refl _
  | b :: r => by
    have ih := sgot_perm g r
    unfold sg ot
    split
    · simp only [List.flatMap_cons, List.append_assoc]
      exact List.Perm.append_left _ ih
    · simp only [List.flatMap_cons]
      exact (List.perm_append_comm_assoc _ _ _).trans (List.Perm.append_left _ ih)
theorem ot_mem {b : Bn} : ∀ {l : List Bn}, b ∈ ot l → b ∈ l
  | [], h => by simp [ot] at h
  | c :: r, h => by
    unfold ot at h
    split at h
    · exact List.mem_cons_of_mem _ (ot_mem h)
    · rcases List.mem_cons.1 h with rfl | h
      · simp
      · exact List.mem_cons_of_mem _ (ot_mem h)
theorem sgot_len : ∀ l : List Bn, (sg l).length + (ot l).length = l.length
  | [] => rfl
  | b :: r => by
    have ih := sgot_len r
    unfold sg ot
    split <;> simp only [List.length_cons] <;> omega
end Go.Proofs.YteibfnclillnnabGreat

/- The walk of apart. -/
namespace Go.Proofs.YteibfnclillnnabGreat
open Go.ChangeShapes Go.WideShapes Go.ChangeAt Go.RowKit
open Tr

section
variable {F : Nat → Prop} {w w' : World} {pa pm : Nat} {s : St}
set_option maxHeartbeats 2000000 in
theorem apartT (L : List Bn) (v : Value) (hv : ∀ b ∈ L, LS s b.n = true ∧ hasS s b.n 4 = (b.rk : Int)) (ok : Ok s) (hl : L.length ≤ 100) (hL : Lst w v (nds L)) (hLf : ∀ a n c, v = .slice (some a) n c → ¬ F a.block) (h : IsA w F pa pm s) (hs : s.steps ≤ 99990000) :
    Calls Tryz.prog 68 #[.pointer (some ⟨pa, 0, none⟩), v] w fun e w' =>
      ∃ v1 v2, e = .returned (.tuple #[v1, v2]) ∧ Own w' w.heap.size v1 (nds (sg L)) ∧ Own w' w.heap.size v2 (nds (ot L)) ∧ (∀ b, v1.ownBlock = some b → v2.ownBlock ≠ some b) ∧ IsA w' F pa pm (apS s (nds L)) ∧ Kept F w w' := by
  obtain ⟨va, vc, rfl, z1, z2, z3, z4⟩ := hL
  have HV := hid hv
  have OK := hid ok
  have HLF := hid hLf
  have Z4 := hid z4
  have HA := hid h
  have HFL := hid h.lt
  have hnl : (nds L).length = L.length := by simp [nds]
  obtain ⟨ti, y0, y1, y2, y3⟩ := info_parts info3i
  have Z0 := hid y0
  have Z1 := hid y1
  have Z2 := hid y2
  have Z3 := hid y3
  rw [hnl] at z1 ⊢
  clear hv ok hLf z4 h z2 z3 y0 y1 y2 y3
  go_enter Tryz.func68, Tryz.ntmps68
  go_wp2
  go_loopw [4, 5, 10] (fun lv ov iv wr => ∃ (j : Nat) (S O : List Bn), iv = .int .i64 (j : Int) ∧ j ≤ L.length ∧ Hid (S ++ sg (L.drop j) = sg L) ∧ Hid (O ++ ot (L.drop j) = ot L) ∧ Hid (Own wr w.heap.size lv (nds S)) ∧ Hid (Own wr w.heap.size ov (nds O)) ∧ Hid (∀ b, lv.ownBlock = some b → ov.ownBlock = some b → False) ∧ Hid (IsA wr F pa pm (apS s (nds (L.take j)))) ∧ Hid (Kept F w wr)) (fun _ _ iv _ => L.length - (intOf iv).toNat)
  case atStart => exact ⟨0, [], [], rfl, Nat.zero_le _, hid (by simp), hid (by simp), hid (Own.nil _ _), hid (Own.nil _ _), hid (fun b hb => by cases hb), HA, hid (Kept.refl _ _)⟩
  case round =>
    clear HA
    obtain ⟨j, S, O, rfl, hj, SG, OT, OS, OO, DJ, hA, hK⟩ := hrel
    obtain ⟨la, lc, rfl⟩ := own_form OS.out
    obtain ⟨oa, oc, rfl⟩ := own_form OO.out
    by_cases hlt : j < L.length
    · have hx : L[j]? = some L[j] := List.getElem?_eq_getElem hlt
      have DR := hid (show L.drop j = L[j] :: L.drop (j + 1) from List.drop_eq_getElem_cons hlt)
      generalize L[j] = x at hx DR
      have hxn : (nds L)[j]? = some (x.n : Int) := by simp [nds, hx]
      rcases Z4.out with e | ⟨b, off, rfl, hb, hc⟩
      · have : (nds L).length = 0 := by rw [e]; rfl
        omega
      have c1 : wr.cell? ⟨b, off + j, none⟩ = some (.int .i64 (x.n : Int)) := (hK.out.cell (p := ⟨b, off + j, none⟩) hb (show ¬ F b from HLF.out _ _ _ rfl)).trans (hc _ _ hxn)
      have hlt' : (j : Int) < (L.length : Int) := by omega
      have hvx := HV.out x (List.mem_of_getElem? hx)
      have hw : IntKind.i64.wrap ((L.length : Int) - 1) = (L.length : Int) - 1 := IntWalk.i64_in _ (by omega)
      have TK := hid (show nds (L.take (j + 1)) = nds (L.take j) ++ [(x.n : Int)] by rw [List.take_add_one, hx]; simp [nds])
      have HAP := hid (show apS s (nds (L.take (j + 1))) = tk (setS (apS s (nds (L.take j))) (x.n : Int) 0 (-1)) 1 from by rw [TK.out, ap_snoc])
      have AV := ap_view (L.take j) OK.out (fun b hb => (HV.out b (List.mem_of_mem_take hb)).1)
      have hst : (apS s (nds (L.take j))).steps ≤ s.steps + 200 := by
        rw [ap_steps]
        have : (nds (L.take j)).length ≤ L.length := by simp [nds]; omega
        omega
      have lx : LS (apS s (nds (L.take j))) x.n = true := by rw [AV.1.ls]; exact hvx.1
      have ST := hid (setT (x.n : Int) 0 (-1) (Ex.start hA.out) (by omega))
      have gv : getS (setS (apS s (nds (L.take j))) (x.n : Int) 0 (-1)) (x.n : Int) 4 = (x.rk : Int) := by
        have e1 : hasS (setS (apS s (nds (L.take j))) (x.n : Int) 0 (-1)) = put (hasS (apS s (nds (L.take j)))) x.n 0 (-1) := set_has (j := 0) lx (by decide)
        have := get_nat (s := setS (apS s (nds (L.take j))) (x.n : Int) 0 (-1)) (c := x.n) (j := 4) (by rw [set_ls]; exact lx) (by decide)
        rw [e1, put_nj (by decide), AV.2, if_neg (by simp)] at this
        rw [show ((4 : Nat) : Int) = 4 from rfl] at this
        rw [this]; exact hvx.2
      have GV := hid gv
      have HST := hid hst
      have hne : (L.drop (j + 1) ≠ []) ↔ j + 1 < L.length := by simp [List.drop_eq_nil_iff]
      clear hx hxn hc AV lx gv hst hvx
      generalize apS s (nds (L.take j)) = r at *
      go_wp2_with fail
      refine ST.out.mono ?_
      rintro e w2 ⟨rfl, h2⟩
      have GT := hid (getT (x.n : Int) 4 h2 (by rw [set_steps]; have := HST.out; omega))
      rw [GV.out] at GT
      clear h2 ST
      go_wp2_with fail
      refine GT.out.mono ?_
      rintro e w3 ⟨rfl, h3⟩
      have H3 := hid h3
      have OS3 := hid (show Own w3 w.heap.size (.slice la (nds S).length lc) (nds S) from own_kept OS.out h3.kept (fun i hi hF => by have := (World.ownsRow.lt OS.out i hi).1; have := HFL.out i hF; omega))
      have OO3 := hid (show Own w3 w.heap.size (.slice oa (nds O).length oc) (nds O) from own_kept OO.out h3.kept (fun i hi hF => by have := (World.ownsRow.lt OO.out i hi).1; have := HFL.out i hF; omega))
      have KK3 := hid (hK.out.trans' h3.kept)
      have hsz := KK3.out.size
      have hlS : (nds S).length ≤ 100 := by have := congrArg List.length SG.out; have h2 := sgot_len L; rw [List.length_append] at this; simp only [nds, List.length_map]; omega
      have hlO : (nds O).length ≤ 100 := by have := congrArg List.length OT.out; have h2 := sgot_len L; rw [List.length_append] at this; simp only [nds, List.length_map]; omega
      clear h3 GT hK OS OO GV
      by_cases q0 : x.rk = 0
      · have q0' : ((x.rk : Int) == 0) = true := by simp [q0]
        by_cases q1 : j + 1 < L.length
        · have q1' : (j : Int) < (L.length : Int) - 1 := by omega
          have QS := hid (show x.rk = 0 ∧ L.drop (j + 1) ≠ [] from ⟨q0, hne.2 q1⟩)
          clear q0 hne
          have OA := hid (show (w3.alloc (.cells #[.int .i64 (x.n : Int)] 3)).ownsRow w.heap.size 3 1 (Value.slice la (nds S).length lc) (nds S).length (row int1 (nds S)) from World.ownsRow.alloc OS3.out _)
          have NW : Hid (∀ j u, [Value.int .i64 (x.n : Int)][j]? = some u → (w3.alloc (.cells #[.int .i64 (x.n : Int)] 3)).cell? ((⟨w3.heap.size, 0, none⟩ : Addr).add j) = some u) := hid (World.news_of_block (heap_alloc_new w3 (.cells #[.int .i64 (x.n : Int)] 3)))
          have BA : Hid (∀ b, (Value.slice la (nds S).length lc).ownBlock = some b → w.heap.size ≤ b ∧ b < w3.heap.size) := hid (fun b hb => World.ownsRow.lt OS3.out b hb)
          have BB : Hid (∀ b, (Value.slice oa (nds O).length oc).ownBlock = some b → w.heap.size ≤ b ∧ b < w3.heap.size) := hid (fun b hb => World.ownsRow.lt OO3.out b hb)
          go_wp2_with (at_builtin; refine wpList_append_lies _ rfl (.tmp 29) (.tmp 31) 23 rfl w.heap.size 3 ti _ 1 8 Tryz.underlying23 Z0.out Z1.out Z2.out Z3.out rfl (by decide) (Value.slice la (nds S).length lc) (nds S).length (row int1 (nds S)) rfl (by exact OA.out) ⟨w3.heap.size, 0, none⟩ 1 1 [.int .i64 (x.n : Int)] rfl rfl NW.out (by simp [Value.oneCell']) (by decide) (by simp [maxLen]; omega) (by omega) (by simp; omega) (w3.heap.size + 1) (by simp) ?_; intro g4 cap4 w4 o4 g4' hat hlt; have O4 := hid o4; have G4 := hid g4'; have AT := hid hat; clear o4 g4' hat hlt)
          have NB : Hid (w.heap.size ≤ g4 ∧ ∀ b, (Value.slice oa (nds O).length oc).ownBlock = some b → b ≠ g4) := hid (by
            rcases AT.out with e | e
            · refine ⟨(BA.out g4 e).1, fun b hb q => ?_⟩
              subst q
              exact DJ.out b e hb
            · refine ⟨by omega, fun b hb q => ?_⟩
              have := BB.out b hb
              omega)
          have KA := hid (((Kept.refl (fun j => (Value.slice la (nds S).length lc).ownBlock = some j) w3).alloc (.cells #[.int .i64 (x.n : Int)] 3)).grown G4.out (fun j hj => Or.inl hj))
          have L4 := hid (show Own w4 w.heap.size (.slice (some ⟨g4, 0, none⟩) ((nds S).length + 1) cap4) (nds (S ++ [x])) from by
            have := O4.out
            unfold Own
            rw [show nds (S ++ [x]) = nds S ++ [(x.n : Int)] by simp [nds], row_append, List.length_append]
            exact this)
          have B4 := hid (show Own w4 w.heap.size (Value.slice oa (nds O).length oc) (nds O) from own_kept OO3.out KA.out (fun i hi hF => DJ.out i hF hi))
          have A4 := hid (H3.out.is.kept KA.out (fun j hF hj => by have := BA.out j hj; have := HFL.out j hF; omega))
          have K4 := hid ((KK3.out.alloc (.cells #[.int .i64 (x.n : Int)] 3)).grown G4.out (fun j hj => Or.inr (BA.out j hj).1))
          clear O4 G4 AT OA NW
          clear OS3 OO3 KK3 H3 KA BA BB DJ
          go_wp2
          go_roundw
          case rel => exact ⟨j + 1, S ++ [x], O, by go_num, by omega, hid (by have e := SG.out; rw [DR.out, show sg (x :: L.drop (j + 1)) = x :: sg (L.drop (j + 1)) from if_pos QS.out] at e; simpa using e), hid (by have e := OT.out; rw [DR.out, show ot (x :: L.drop (j + 1)) = ot (L.drop (j + 1)) from if_pos QS.out] at e; simpa using e), L4, B4, hid (fun b hb hb' => NB.out.2 b hb' (Option.some.inj (show some g4 = some b from hb)).symm), hid (by rw [HAP.out]; exact A4.out), K4⟩
          case measure => simp [intOf]; omega
        · have q1' : decide ((j : Int) < (L.length : Int) - 1) = false := by simp; omega
          have QS := hid (show ¬ (x.rk = 0 ∧ L.drop (j + 1) ≠ []) from fun z => q1 (hne.1 z.2))
          clear q0 q1 hne
          have OA := hid (show (w3.alloc (.cells #[.int .i64 (x.n : Int)] 3)).ownsRow w.heap.size 3 1 (Value.slice oa (nds O).length oc) (nds O).length (row int1 (nds O)) from World.ownsRow.alloc OO3.out _)
          have NW : Hid (∀ j u, [Value.int .i64 (x.n : Int)][j]? = some u → (w3.alloc (.cells #[.int .i64 (x.n : Int)] 3)).cell? ((⟨w3.heap.size, 0, none⟩ : Addr).add j) = some u) := hid (World.news_of_block (heap_alloc_new w3 (.cells #[.int .i64 (x.n : Int)] 3)))
          have BA : Hid (∀ b, (Value.slice oa (nds O).length oc).ownBlock = some b → w.heap.size ≤ b ∧ b < w3.heap.size) := hid (fun b hb => World.ownsRow.lt OO3.out b hb)
          have BB : Hid (∀ b, (Value.slice la (nds S).length lc).ownBlock = some b → w.heap.size ≤ b ∧ b < w3.heap.size) := hid (fun b hb => World.ownsRow.lt OS3.out b hb)
          go_wp2_with (at_builtin; refine wpList_append_lies _ rfl (.tmp 33) (.tmp 35) 23 rfl w.heap.size 3 ti _ 1 8 Tryz.underlying23 Z0.out Z1.out Z2.out Z3.out rfl (by decide) (Value.slice oa (nds O).length oc) (nds O).length (row int1 (nds O)) rfl (by exact OA.out) ⟨w3.heap.size, 0, none⟩ 1 1 [.int .i64 (x.n : Int)] rfl rfl NW.out (by simp [Value.oneCell']) (by decide) (by simp [maxLen]; omega) (by omega) (by simp; omega) (w3.heap.size + 1) (by simp) ?_; intro g4 cap4 w4 o4 g4' hat hlt; have O4 := hid o4; have G4 := hid g4'; have AT := hid hat; clear o4 g4' hat hlt)
          have NB : Hid (w.heap.size ≤ g4 ∧ ∀ b, (Value.slice la (nds S).length lc).ownBlock = some b → b ≠ g4) := hid (by
            rcases AT.out with e | e
            · refine ⟨(BA.out g4 e).1, fun b hb q => ?_⟩
              subst q
              exact DJ.out b hb e
            · refine ⟨by omega, fun b hb q => ?_⟩
              have := BB.out b hb
              omega)
          have KA := hid (((Kept.refl (fun j => (Value.slice oa (nds O).length oc).ownBlock = some j) w3).alloc (.cells #[.int .i64 (x.n : Int)] 3)).grown G4.out (fun j hj => Or.inl hj))
          have L4 := hid (show Own w4 w.heap.size (.slice (some ⟨g4, 0, none⟩) ((nds O).length + 1) cap4) (nds (O ++ [x])) from by
            have := O4.out
            unfold Own
            rw [show nds (O ++ [x]) = nds O ++ [(x.n : Int)] by simp [nds], row_append, List.length_append]
            exact this)
          have B4 := hid (show Own w4 w.heap.size (Value.slice la (nds S).length lc) (nds S) from own_kept OS3.out KA.out (fun i hi hF => DJ.out i hi hF))
          have A4 := hid (H3.out.is.kept KA.out (fun j hF hj => by have := BA.out j hj; have := HFL.out j hF; omega))
          have K4 := hid ((KK3.out.alloc (.cells #[.int .i64 (x.n : Int)] 3)).grown G4.out (fun j hj => Or.inr (BA.out j hj).1))
          clear O4 G4 AT OA NW
          clear OS3 OO3 KK3 H3 KA BA BB DJ
          go_wp2
          go_roundw
          case rel => exact ⟨j + 1, S, O ++ [x], by go_num, by omega, hid (by have e := SG.out; rw [DR.out, show sg (x :: L.drop (j + 1)) = sg (L.drop (j + 1)) from if_neg QS.out] at e; simpa using e), hid (by have e := OT.out; rw [DR.out, show ot (x :: L.drop (j + 1)) = x :: ot (L.drop (j + 1)) from if_neg QS.out] at e; simpa using e), B4, L4, hid (fun b hb hb' => NB.out.2 b hb (Option.some.inj (show some g4 = some b from hb')).symm), hid (by rw [HAP.out]; exact A4.out), K4⟩
          case measure => simp [intOf]; omega
      · have q0' : ((x.rk : Int) == 0) = false := by simp [q0]
        have QS := hid (show ¬ (x.rk = 0 ∧ L.drop (j + 1) ≠ []) from fun z => q0 z.1)
        clear q0 hne
        have OA := hid (show (w3.alloc (.cells #[.int .i64 (x.n : Int)] 3)).ownsRow w.heap.size 3 1 (Value.slice oa (nds O).length oc) (nds O).length (row int1 (nds O)) from World.ownsRow.alloc OO3.out _)
        have NW : Hid (∀ j u, [Value.int .i64 (x.n : Int)][j]? = some u → (w3.alloc (.cells #[.int .i64 (x.n : Int)] 3)).cell? ((⟨w3.heap.size, 0, none⟩ : Addr).add j) = some u) := hid (World.news_of_block (heap_alloc_new w3 (.cells #[.int .i64 (x.n : Int)] 3)))
        have BA : Hid (∀ b, (Value.slice oa (nds O).length oc).ownBlock = some b → w.heap.size ≤ b ∧ b < w3.heap.size) := hid (fun b hb => World.ownsRow.lt OO3.out b hb)
        have BB : Hid (∀ b, (Value.slice la (nds S).length lc).ownBlock = some b → w.heap.size ≤ b ∧ b < w3.heap.size) := hid (fun b hb => World.ownsRow.lt OS3.out b hb)
        go_wp2_with (at_builtin; refine wpList_append_lies _ rfl (.tmp 33) (.tmp 35) 23 rfl w.heap.size 3 ti _ 1 8 Tryz.underlying23 Z0.out Z1.out Z2.out Z3.out rfl (by decide) (Value.slice oa (nds O).length oc) (nds O).length (row int1 (nds O)) rfl (by exact OA.out) ⟨w3.heap.size, 0, none⟩ 1 1 [.int .i64 (x.n : Int)] rfl rfl NW.out (by simp [Value.oneCell']) (by decide) (by simp [maxLen]; omega) (by omega) (by simp; omega) (w3.heap.size + 1) (by simp) ?_; intro g4 cap4 w4 o4 g4' hat hlt; have O4 := hid o4; have G4 := hid g4'; have AT := hid hat; clear o4 g4' hat hlt)
        have NB : Hid (w.heap.size ≤ g4 ∧ ∀ b, (Value.slice la (nds S).length lc).ownBlock = some b → b ≠ g4) := hid (by
          rcases AT.out with e | e
          · refine ⟨(BA.out g4 e).1, fun b hb q => ?_⟩
            subst q
            exact DJ.out b hb e
          · refine ⟨by omega, fun b hb q => ?_⟩
            have := BB.out b hb
            omega)
        have KA := hid (((Kept.refl (fun j => (Value.slice oa (nds O).length oc).ownBlock = some j) w3).alloc (.cells #[.int .i64 (x.n : Int)] 3)).grown G4.out (fun j hj => Or.inl hj))
        have L4 := hid (show Own w4 w.heap.size (.slice (some ⟨g4, 0, none⟩) ((nds O).length + 1) cap4) (nds (O ++ [x])) from by
          have := O4.out
          unfold Own
          rw [show nds (O ++ [x]) = nds O ++ [(x.n : Int)] by simp [nds], row_append, List.length_append]
          exact this)
        have B4 := hid (show Own w4 w.heap.size (Value.slice la (nds S).length lc) (nds S) from own_kept OS3.out KA.out (fun i hi hF => DJ.out i hi hF))
        have A4 := hid (H3.out.is.kept KA.out (fun j hF hj => by have := BA.out j hj; have := HFL.out j hF; omega))
        have K4 := hid ((KK3.out.alloc (.cells #[.int .i64 (x.n : Int)] 3)).grown G4.out (fun j hj => Or.inr (BA.out j hj).1))
        clear O4 G4 AT OA NW
        clear OS3 OO3 KK3 H3 KA BA BB DJ
        go_wp2
        go_roundw
        case rel => exact ⟨j + 1, S, O ++ [x], by go_num, by omega, hid (by have e := SG.out; rw [DR.out, show sg (x :: L.drop (j + 1)) = sg (L.drop (j + 1)) from if_neg QS.out] at e; simpa using e), hid (by have e := OT.out; rw [DR.out, show ot (x :: L.drop (j + 1)) = x :: ot (L.drop (j + 1)) from if_neg QS.out] at e; simpa using e), B4, L4, hid (fun b hb hb' => NB.out.2 b hb (Option.some.inj (show some g4 = some b from hb')).symm), hid (by rw [HAP.out]; exact A4.out), K4⟩
        case measure => simp [intOf]; omega
    · obtain rfl : j = L.length := by omega
      have S1 := hid (show sg L = S from by have := SG.out; rw [List.drop_length] at this; simpa [sg] using this.symm)
      have O1 := hid (show ot L = O from by have := OT.out; rw [List.drop_length] at this; simpa [ot] using this.symm)
      have A1 := hid (show IsA wr F pa pm (apS s (nds L)) from by have := hA.out; rwa [List.take_length] at this)
      clear hA SG OT
      go_wp2
      go_ret2
      exact ⟨_, _, rfl, by rw [S1.out]; exact OS.out, by rw [O1.out]; exact OO.out, fun b hb hb' => DJ.out b hb hb', A1.out, hK.out⟩
end
end Go.Proofs.YteibfnclillnnabGreat

/- The walk of remove. -/
namespace Go.Proofs.YteibfnclillnnabGreat
open Go.ChangeShapes Go.WideShapes Go.ChangeAt Go.RowKit
open Tr

/-- what remove leaves: the node t is given back, its item is free; the other trees and t's children are the heap vs -/
structure Rmd (s s' : St) (vs : List Bn) (t : Bn) (ts : List Bn) : Prop where
  bh : Bh (befF (hasS s)) s' vs
  ok : Ok s'
  num : cnt s'.pl + 1 = cnt s.pl
  most : s'.most = s.most
  ls : ∀ c, LS s' c = if c = t.n then false else LS s c
  key : ∀ c, hasS s' c 7 = hasS s c 7 ∧ hasS s' c 8 = hasS s c 8
  free : hasS s' t.i 9 = -1
  oth : ∀ c, c ∉ ts.flatMap Bn.cells → ∀ j, hasS s' c j = hasS s c j
  cells : (ts.flatMap Bn.cells).Perm (t.n :: t.i :: vs.flatMap Bn.cells)
  items : (ts.flatMap Bn.items).Perm (t.i :: vs.flatMap Bn.items)
theorem ap_most : ∀ (l : List Int) (s : St), (apS s l).most = s.most
  | [], s => rfl
  | x :: r, s => by
    have := ap_most r (tk (setS s x 0 (-1)) 1)
    rw [show (tk (setS s x 0 (-1)) 1).most = s.most from set_most _ _ _ _] at this
    exact this
theorem rmd_of {s s1 s' : St} {vs ts : List Bn} {t : Bn} (hm : s1.most = s.most) (h : Rv s s1 t ts) (l : Left s1 s' vs ((kids t.k ++ but t ts).flatMap Bn.cells) ((kids t.k ++ but t ts).flatMap Bn.items)) (hnd : (ts.flatMap Bn.cells).Nodup) : Rmd s s' vs t ts := by
  have key : ∀ c, hasS s1 c 7 = hasS s c 7 ∧ hasS s1 c 8 = hasS s c 8 := fun c => ⟨by rw [h.val, if_neg (by omega), if_neg (by omega)], by rw [h.val, if_neg (by omega), if_neg (by omega)]⟩
  have e : befF (hasS s1) = befF (hasS s) := befF_eq key
  have nd2 := h.cells.nodup_iff.1 hnd
  simp only [List.nodup_cons, List.mem_cons, not_or] at nd2
  have hin : ∀ c, c ∈ (kids t.k ++ but t ts).flatMap Bn.cells → c ∈ ts.flatMap Bn.cells := fun c hc => h.cells.mem_iff.2 (List.mem_cons_of_mem _ (List.mem_cons_of_mem _ hc))
  have hk : ∀ c, c ∈ (kids t.k).map Bn.n → c ∈ (kids t.k ++ but t ts).flatMap Bn.cells := fun c hc => by
    obtain ⟨d, hd, rfl⟩ := List.mem_map.1 hc
    exact List.mem_flatMap.2 ⟨d, List.mem_append_left _ hd, by simp [Bn.cells]⟩
  have tin : t.i ∈ ts.flatMap Bn.cells := h.cells.mem_iff.2 (by simp)
  refine ⟨by rw [← e]; exact l.bh, l.sm.ok, by rw [cnt_sm h.ok l.sm]; exact h.num, l.sm.most.trans hm, fun c => by rw [l.sm.ls]; exact h.ls c, fun c => ⟨(l.key c).1.trans (key c).1, (l.key c).2.trans (key c).2⟩, ?_, fun c hc j => ?_, ?_, ?_⟩
  · rw [l.oth t.i nd2.2.1, h.val, if_pos ⟨rfl, rfl⟩]
  · rw [l.oth c (fun q => hc (hin c q)), h.val, if_neg (fun e : c = t.i ∧ j = 9 => hc (e.1 ▸ tin)), if_neg (fun e : j = 0 ∧ c ∈ (kids t.k).map Bn.n => hc (hin c (hk c e.2)))]
  · exact h.cells.trans (.cons _ (.cons _ l.cells.symm))
  · exact h.items.trans (.cons _ l.items.symm)
theorem Left.perm {s0 s : St} {vs : List Bn} {cs its cs' its' : List Nat} (l : Left s0 s vs cs its) (p : cs.Perm cs') (q : its.Perm its') : Left s0 s vs cs' its' :=
  ⟨l.bh, l.sm, l.cells.trans p, l.items.trans q, l.key, fun c hc j => l.oth c (fun h => hc (p.mem_iff.1 h)) j⟩
theorem sgot_perm2 (g : Bn → List Nat) (K A : List Bn) : ((ot K ++ A ++ sg K).flatMap g).Perm ((K ++ A).flatMap g) := by
  simp only [List.flatMap_append]
  refine List.perm_append_comm.trans ?_
  rw [← List.append_assoc]
  exact List.Perm.append_right _ (sgot_perm g K)
theorem ot_kids : ∀ k : Tr, Kd k → (ot (kids k)).length = rkf k
  | lf, _ => rfl
  | nd n i k r, h => by
    have ih := ot_kids r h.2.2
    show (if (⟨n, i, k⟩ : Bn).rk = 0 ∧ kids r ≠ [] then ot (kids r) else (⟨n, i, k⟩ : Bn) :: ot (kids r)).length = _
    rcases h.1 with e | ⟨_, e1, e2, _⟩
    · rw [if_neg, List.length_cons, ih, rkf_link e]
      rintro ⟨z, z2⟩
      have z : rkf k = 0 := z
      cases q : leaf r with
      | true => rw [leaf_lf q] at z2; exact z2 rfl
      | false => have := rkf_pos q; omega
    · rw [if_pos, ih, rkf_single e1 e2]
      refine ⟨by show rkf k = 0; rw [leaf_lf e1]; rfl, ?_⟩
      cases r with
      | lf => simp [leaf] at e2
      | nd => simp [kids]
theorem sg_lf {b : Bn} {l : List Bn} (h : b ∈ sg l) : b.k = lf := by
  have h0 : rkf b.k = 0 := (sg_mem h).2
  cases q : leaf b.k with
  | true => exact leaf_lf q
  | false => have := rkf_pos q; omega
theorem kids_rk {L : Nat → Bool} {f : Nat → Nat → Int} : ∀ {up : Int} {t : Tr}, Vw L f up t → ∀ b ∈ kids t, L b.n = true ∧ f b.n 4 = (b.rk : Int)
  | _, lf, _, b, hb => by simp [kids] at hb
  | up, nd n i k r, h, b, hb => by
    simp only [kids, List.mem_cons] at hb
    rcases hb with rfl | hb
    · exact ⟨h.1.1, h.1.2.2.2.2.2.2.1⟩
    · exact kids_rk h.2.2 b hb
theorem nodup_take {A S : List Bn} {g : Bn → List Nat} (j : Nat) (h : ((A ++ S).flatMap g).Nodup) : ((A ++ S.take j).flatMap g).Nodup := by
  rw [show (A ++ S).flatMap g = (A ++ S.take j).flatMap g ++ (S.drop j).flatMap g by rw [← List.flatMap_append, List.append_assoc, List.take_append_drop]] at h
  exact (List.nodup_append.1 h).1
theorem len_take {A S : List Bn} {g : Bn → List Nat} (j : Nat) : ((A ++ S.take j).flatMap g).length ≤ ((A ++ S).flatMap g).length := by
  rw [show (A ++ S).flatMap g = (A ++ S.take j).flatMap g ++ (S.drop j).flatMap g by rw [← List.flatMap_append, List.append_assoc, List.take_append_drop], List.length_append]
  omega
/-- one round of the single ones, as far as it is told -/
theorem sround {s1 sj : St} {vs A S : List Bn} {x : Bn} {j : Nat} (l : Left s1 sj vs ((A ++ S.take j).flatMap Bn.cells) ((A ++ S.take j).flatMap Bn.items)) (hx : S[j]? = some x) (hv : Vb (LS s1) (hasS s1) x) (hlf : x.k = lf) (hnd : ((A ++ S).flatMap Bn.cells).Nodup) (hsm : ((A ++ S).flatMap Bn.items).length ≤ 60000) :
    Bh (befF (hasS sj)) sj vs ∧ Vb (LS sj) (hasS sj) x ∧ (vs.flatMap Bn.cells ++ x.cells).Nodup ∧ (vs.flatMap Bn.items ++ x.items).length ≤ 60000 ∧
      ∀ (k : Nat) (us : List Bn) (s2 : St), Left (tk sj k) s2 us (vs.flatMap Bn.cells ++ x.cells) (vs.flatMap Bn.items ++ x.items) → Left s1 s2 us ((A ++ S.take (j + 1)).flatMap Bn.cells) ((A ++ S.take (j + 1)).flatMap Bn.items) := by
  have TK : S.take (j + 1) = S.take j ++ [x] := by rw [List.take_add_one, hx]; rfl
  have e : ∀ g : Bn → List Nat, (A ++ S.take (j + 1)).flatMap g = (A ++ S.take j).flatMap g ++ g x := fun g => by rw [TK, ← List.append_assoc, List.flatMap_append]; simp
  have n1 := nodup_take (j + 1) hnd
  have m1 := len_take (A := A) (S := S) (g := Bn.items) (j + 1)
  rw [e] at n1 m1
  have n2 := List.nodup_append.1 n1
  refine ⟨by rw [befF_eq l.key]; exact l.bh, l.keeps hv (by rw [hlf]; simp [cells]) (fun c hc hd => n2.2.2 c hd c hc rfl), (l.cells.append_right _).nodup_iff.2 n1, ?_, fun k us s2 h => ?_⟩
  · have := (l.items.append_right x.items).length_eq
    omega
  · rw [e, e]
    exact l.more (h.tk l.sm.ok)

section
variable {F : Nat → Prop} {w w' : World} {pa pm : Nat} {s : St}
set_option maxHeartbeats 4000000 in
theorem removeT (ts : List Bn) (t : Bn) (v : Value) (hv : ∀ b ∈ ts, Vb (LS s) (hasS s) b) (hg : ∀ b ∈ ts, b.n ≠ t.n → Gb (befF (hasS s)) b) (hgt : Gt (befF (hasS s)) t) (hnd : (ts.flatMap Bn.cells).Nodup) (ht : t ∈ ts)
    (hl : ts.length ≤ 17) (hrk : t.rk < 16) (hsm : (ts.flatMap Bn.items).length ≤ 60000) (ok : Ok s) (hL : Lst w v (nds ts)) (hLf : ∀ a n c, v = .slice (some a) n c → ¬ F a.block) (h : IsA w F pa pm s) (hs : s.steps ≤ 99970000) :
    Calls Tryz.prog 45 #[.pointer (some ⟨pa, 0, none⟩), v, .int .i64 (t.n : Int)] w fun e w' =>
      ∃ (vs : List Bn) (s' : St), e = .returned (.int .i64 (headr vs)) ∧ Rmd s s' vs t ts ∧ Aft F w w' pa pm s' ∧ s.steps ≤ s'.steps ∧ s'.steps ≤ s.steps + 21 + 57 * t.rk + 13 * ts.length := by
  have hkd := hgt.kd
  have hkn : (t.k.cells).Nodup := by
    have := flat_nodup hnd t ht
    simp only [Bn.cells, List.nodup_cons, List.mem_cons, not_or] at this
    exact this.2.2
  obtain ⟨K, hK⟩ : ∃ K, K = kids t.k := ⟨_, rfl⟩
  have KT : nds K = tops t.k := by rw [hK]; exact kids_tops t.k
  have hnk : (nds K).Nodup := by
    have h1 : ((kids t.k).flatMap Bn.cells).Nodup := by rw [kids_cells]; exact hkn
    rw [← hK] at h1
    have h2 := tops_nodup h1
    rw [show nds K = (K.map Bn.n).map (fun n : Nat => (n : Int)) by simp [nds]]
    exact List.Pairwise.map (fun n : Nat => (n : Int)) (fun a b h e => h (by omega)) h2
  have C := hid (childrenT t (hv t ht).vn hkd (by rw [← KT]; exact hnk) ok (by omega) h (by omega))
  obtain ⟨va, vc, rfl, z1, z2, z3, z4⟩ := hL
  have hnl : (nds ts).length = ts.length := by simp [nds]
  have hrl : t.k.rank ≤ 2 * t.rk := (kd_len t.k hkd).1
  obtain ⟨R, hR⟩ : ∃ R, R = t.k.rank := ⟨_, rfl⟩
  have hKl : K.length = R := by rw [hK, kids_len, hR]
  have hKn : (nds K).length = K.length := by simp [nds]
  have hot : (ot K).length = t.rk := by rw [hK]; exact ot_kids t.k hkd
  have hso := sgot_len K
  have RV := hid (rv_view (2 + 2 * R) ok hv hg hgt hnd ht)
  have KL := hid (show ∀ b ∈ K, LS (tk s (2 + 2 * R)) b.n = true ∧ hasS (tk s (2 + 2 * R)) b.n 4 = (b.rk : Int) from fun b hb => by
    exact kids_rk (hv t ht).kids b (by rw [← hK]; exact hb))
  rw [← KT, ← hR] at C
  have RE := hid (show rv1 s (2 + 2 * R) t = gbS (apS (tk s (2 + 2 * R)) (nds K)) (t.n : Int) by rw [hK]; rfl)
  have HK := hid hK
  have HKL := hid hKl
  have HKN := hid hKn
  have HNL := hid hnl
  have HOT := hid hot
  have HSO := hid hso
  have HRL := hid (show R ≤ 2 * t.rk by rw [hR]; exact hrl)
  have hR30 : R ≤ 30 := by omega
  have OK := hid ok
  have HLF := hid hLf
  have Z4 := hid z4
  have HFL := hid h.lt
  have HND := hid hnd
  have HSM := hid hsm
  obtain ⟨ti, i0, i1, i2, i3⟩ := info_parts info3i
  have I0 := hid i0
  have I1 := hid i1
  have I2 := hid i2
  have I3 := hid i3
  have hbl : (but t ts).length ≤ ts.length := by unfold but; exact List.length_filter_le _ _
  rw [hnl] at z1 ⊢
  clear hv hg hgt hnd ht hsm ok hLf h z4 z2 z3 KT hK hKl hKn hnl i0 i1 i2 i3 hkd hkn hnk hR hot hso hrl
  go_enter Tryz.func45, Tryz.ntmps45
  go_wp2_with fail
  refine C.out.mono ?_
  rintro e w1 ⟨v1, rfl, o1, a1, q1⟩
  have AP := hid (apartT (s := tk s (2 + 2 * R)) K v1 KL.out (Sm.tk OK.out _).ok (by have := HKL.out; omega) (Own.lst o1) (fun a n c e hF => by
    subst e
    have := (World.ownsRow.lt o1 a.block rfl).1
    have := HFL.out _ hF
    omega) a1 (by show s.steps + _ ≤ _; omega))
  have Q1 := hid q1
  clear o1 a1 q1 C
  go_wp2_with fail
  refine AP.out.mono ?_
  rintro e w2 ⟨sv, ov, rfl, os, oo, dj, a2, q2⟩
  obtain ⟨sa, sc, rfl⟩ := own_form os
  have ST : Hid ((apS (tk s (2 + 2 * R)) (nds K)).steps = s.steps + (2 + 2 * R) + 2 * K.length) := hid (by rw [ap_steps, HKN.out]; rfl)
  have GB := hid (giveBackT (t.n : Int) (Aft.start a2) (by rw [ST.out]; have := HKL.out; omega))
  rw [← RE.out] at GB
  have hz1 : w.heap.size ≤ w1.heap.size := Q1.out.size
  have OS := hid (Own.base os hz1)
  have OO := hid (Own.base oo hz1)
  have DJ := hid dj
  have Q2 := hid (Q1.out.trans' q2)
  clear os oo dj a2 q2 AP
  go_wp2_with fail
  refine GB.out.mono ?_
  rintro e w3 ⟨rfl, h3⟩
  obtain ⟨G, hG⟩ : ∃ G, G = Grow F w2 w3 := ⟨_, rfl⟩
  have A3 := hid h3.is
  have Q3 := hid (Q2.out.trans' h3.kept)
  have hz3 : w2.heap.size ≤ w3.heap.size := h3.kept.size
  have hz2 : w.heap.size ≤ w2.heap.size := Q2.out.size
  have GW := hid (show ∀ i, G i → F i ∨ (w2.heap.size ≤ i ∧ i < w3.heap.size) by rw [hG]; exact fun i q => q)
  have SO := hid (fun i (hi : (Value.slice sa (nds (sg K)).length sc).ownBlock = some i) => World.ownsRow.lt OS.out i hi)
  have NG := hid (fun i (hi : ov.ownBlock = some i) => show ¬ G i from fun q => by
    have := World.ownsRow.lt OO.out i hi
    rcases GW.out i q with q | q
    · have := HFL.out i q; omega
    · omega)
  have NGS := hid (fun i (hi : (Value.slice sa (nds (sg K)).length sc).ownBlock = some i) => show ¬ G i from fun q => by
    have := SO.out i hi
    rcases GW.out i q with q | q
    · have := HFL.out i q; omega
    · omega)
  have OS3 := hid (show Own w3 w.heap.size (.slice sa (nds (sg K)).length sc) (nds (sg K)) from own_kept OS.out h3.kept (fun i hi hF => by have := SO.out i hi; have := HFL.out i hF; omega))
  have OO3 := hid (show Own w3 w.heap.size ov (nds (ot K)) from own_kept OO.out h3.kept (fun i hi hF => by have := World.ownsRow.lt OO.out i hi; have := HFL.out i hF; omega))
  have DJ3 := hid (show ∀ b, (Value.slice sa (nds (sg K)).length sc).ownBlock = some b → ov.ownBlock = some b → False from fun b h1 h2 => DJ.out b h1 h2)
  rw [← hG] at A3
  have ST3 : Hid ((rv1 s (2 + 2 * R) t).steps = s.steps + (2 + 2 * R) + 2 * K.length + 3) := hid (by rw [RE.out, gb_steps, ST.out])
  clear h3 GB OS OO DJ hG Q2
  go_wp2_with fail
  go_loopw [8, 29] (fun lv iv wx => ∃ j : Nat, iv = .int .i64 (j : Int) ∧ j ≤ ts.length ∧ Hid (Own wx w.heap.size lv (nds (ot K ++ but t (ts.take j)))) ∧ Hid (∀ b, lv.ownBlock = some b → ¬ G b) ∧ Hid (Own wx w.heap.size (.slice sa (nds (sg K)).length sc) (nds (sg K))) ∧ Hid (∀ b, (Value.slice sa (nds (sg K)).length sc).ownBlock = some b → lv.ownBlock = some b → False) ∧ Hid (IsA wx G pa pm (rv1 s (2 + 2 * R) t)) ∧ Hid (Kept F w wx) ∧ w3.heap.size ≤ wx.heap.size) (fun _ iv _ => ts.length - (intOf iv).toNat)
  case atStart => exact ⟨0, rfl, Nat.zero_le _, hid (by simpa [but] using OO3.out), NG, OS3, DJ3, A3, Q3, Nat.le_refl _⟩
  case round =>
    clear OS3 OO3 DJ3 NG A3 Q3
    obtain ⟨j, rfl, hj, ho, hng, hso, hdj, hA, hQ, hsz⟩ := hrel
    obtain ⟨la, lc, rfl⟩ := own_form ho.out
    by_cases hlt : j < ts.length
    · have hx : ts[j]? = some ts[j] := List.getElem?_eq_getElem hlt
      generalize ts[j] = x at hx
      have hxn : (nds ts)[j]? = some (x.n : Int) := by simp [nds, hx]
      rcases Z4.out with e | ⟨b, off, rfl, hb, hc⟩
      · have h1 : (nds ts).length = 0 := by rw [e]; rfl
        rw [HNL.out] at h1
        omega
      have c1 : wr.cell? ⟨b, off + j, none⟩ = some (.int .i64 (x.n : Int)) := (hQ.out.cell (p := ⟨b, off + j, none⟩) hb (show ¬ F b from HLF.out _ _ _ rfl)).trans (hc _ _ hxn)
      have hlt' : (j : Int) < (ts.length : Int) := by omega
      have TK := hid (show ts.take (j + 1) = ts.take j ++ [x] by rw [List.take_add_one, hx]; rfl)
      clear hx hxn hc
      by_cases q : x.n = t.n
      · have ne : ((x.n : Int) != (t.n : Int)) = false := by simp [q]
        have EB := hid (show but t (ts.take (j + 1)) = but t (ts.take j) by rw [TK.out]; simp [but, q])
        clear q
        go_wp2
        go_roundw
        case rel => exact ⟨j + 1, by go_num, by omega, hid (by rw [EB.out]; exact ho.out), hng, hso, hdj, hA, hQ, hsz⟩
        case measure => simp [intOf]; omega
      · have ne : ((x.n : Int) != (t.n : Int)) = true := by simp; omega
        have EB := hid (show nds (ot K ++ but t (ts.take (j + 1))) = nds (ot K ++ but t (ts.take j)) ++ [(x.n : Int)] by rw [TK.out]; simp [but, q, nds])
        have NL : (nds (ot K ++ but t (ts.take j))).length ≤ K.length + ts.length := by
          have := List.length_filter_le (fun b : Bn => b.n != t.n) (ts.take j)
          have h2 : (ts.take j).length ≤ ts.length := by rw [List.length_take]; omega
          have h3 := HSO.out
          simp only [nds, List.length_map, List.length_append, but]; omega
        have hKR := HKL.out
        have hw4 : w.heap.size ≤ wr.heap.size := hQ.out.size
        have NW : Hid (∀ i u, [Value.int .i64 (x.n : Int)][i]? = some u → (wr.alloc (.cells #[.int .i64 (x.n : Int)] 3)).cell? ((⟨wr.heap.size, 0, none⟩ : Addr).add i) = some u) := hid (World.news_of_block (heap_alloc_new wr (.cells #[.int .i64 (x.n : Int)] 3)))
        have HLT := hid (fun i hi => World.ownsRow.lt ho.out i hi)
        have SLT := hid (fun i hi => World.ownsRow.lt hso.out i hi)
        clear q TK
        go_wp2_with (at_builtin; refine wpList_append_lies _ rfl (.tmp 36) (.tmp 38) 23 rfl w.heap.size 3 ti _ 1 8 Tryz.underlying23 I0.out I1.out I2.out I3.out rfl (by decide) (.slice la (nds (ot K ++ but t (ts.take j))).length lc) (nds (ot K ++ but t (ts.take j))).length (row int1 (nds (ot K ++ but t (ts.take j)))) rfl (World.ownsRow.alloc ho.out _) ⟨wr.heap.size, 0, none⟩ 1 1 [.int .i64 (x.n : Int)] rfl rfl NW.out (by simp [Value.oneCell']) (by decide) (by simp [maxLen]; omega) (by omega) (by simp; omega) (wr.heap.size + 1) (by simp) ?_; intro g4 cap4 w4 o4 g4' hat hlt4; have O4 := hid o4; have G4 := hid g4'; have AT := hid hat; clear o4 g4' hat hlt4)
        have hz4 : wr.heap.size ≤ w4.heap.size := by have := G4.out.size; simp at this; omega
        have NB : Hid (¬ G g4) := hid (fun hg => by
          rcases AT.out with e | e
          · exact hng.out g4 e hg
          · rcases GW.out g4 hg with q | q
            · have := HFL.out _ q; omega
            · omega)
        have DB : Hid (∀ i, (Value.slice sa (nds (sg K)).length sc).ownBlock = some i → some g4 = some i → False) := hid (fun i hi he => by
          have he := Option.some.inj he
          subst he
          rcases AT.out with e | e
          · exact hdj.out g4 hi e
          · have := SLT.out g4 hi; omega)
        have L4 := hid (show Own w4 w.heap.size (.slice (some ⟨g4, 0, none⟩) ((nds (ot K ++ but t (ts.take j))).length + 1) cap4) (nds (ot K ++ but t (ts.take (j + 1)))) from by
          have := O4.out
          unfold Own
          rw [EB.out, row_append, List.length_append]
          exact this)
        have KB := hid (((Kept.refl (fun i => ¬ G i) wr).alloc (.cells #[.int .i64 (x.n : Int)] 3)).grown G4.out (fun i hi => Or.inl (hng.out i hi)))
        have KA := hid (((Kept.refl (fun i => (Value.slice la (nds (ot K ++ but t (ts.take j))).length lc).ownBlock = some i) wr).alloc (.cells #[.int .i64 (x.n : Int)] 3)).grown G4.out (fun i hi => Or.inl hi))
        have S4 := hid (show Own w4 w.heap.size (.slice sa (nds (sg K)).length sc) (nds (sg K)) from own_kept hso.out KA.out (fun i hi hF => hdj.out i hi hF))
        have A4 := hid (hA.out.kept KB.out (fun i hF hi => hi hF))
        have Q4 := hid ((hQ.out.alloc (.cells #[.int .i64 (x.n : Int)] 3)).grown G4.out (fun i hi => Or.inr (HLT.out i hi).1))
        clear O4 G4 AT KB KA ho hng hso hdj hA hQ HLT SLT NW EB
        go_wp2
        go_roundw
        case rel => exact ⟨j + 1, by go_num, by omega, L4, hid (fun i hi => by cases hi; exact NB.out), S4, DB, A4, Q4, by omega⟩
        case measure => simp [intOf]; omega
    · obtain rfl : j = ts.length := by omega
      rw [List.take_length] at ho
      have HV := RV.out.vb
      rw [← HK.out] at HV
      have ND2 := RV.out.nd
      rw [← HK.out] at ND2
      have SM2 : ((K ++ but t ts).flatMap Bn.items).length ≤ 60000 := by
        have h1 := RV.out.items.length_eq
        rw [List.length_cons, ← HK.out] at h1
        have := HSM.out
        omega
      have NDZ := hid ((sgot_perm2 Bn.cells K (but t ts)).nodup_iff.2 ND2)
      have SMZ := hid (show ((ot K ++ but t ts ++ sg K).flatMap Bn.items).length ≤ 60000 by rw [(sgot_perm2 Bn.items K (but t ts)).length_eq]; exact SM2)
      have ND3 : ((ot K ++ but t ts).flatMap Bn.cells).Nodup := by have := nodup_take 0 NDZ.out; simpa using this
      have SM3 : ((ot K ++ but t ts).flatMap Bn.items).length ≤ 60000 := by have := len_take (A := ot K ++ but t ts) (S := sg K) (g := Bn.items) 0; have h2 := SMZ.out; simp only [List.take_zero, List.append_nil] at this; omega
      have HV3 : ∀ b ∈ ot K ++ but t ts, Vb (LS (rv1 s (2 + 2 * R) t)) (hasS (rv1 s (2 + 2 * R) t)) b ∧ Gb (befF (hasS (rv1 s (2 + 2 * R) t))) b := fun b hb => HV b (by
        rcases List.mem_append.1 hb with hb | hb
        · exact List.mem_append_left _ (ot_mem hb)
        · exact List.mem_append_right _ hb)
      have VS := hid (fun b (hb : b ∈ sg K) => (HV b (List.mem_append_left _ (sg_mem hb).1)).1)
      have hKR := HKL.out
      have hLL : (ot K ++ but t ts).length ≤ t.rk + ts.length := by rw [List.length_append, HOT.out]; omega
      have SU := hid (sumT (F := G) (w := wr) (s := rv1 s (2 + 2 * R) t) (ot K ++ but t ts) _ HV3 ND3 SM3 RV.out.ok (by omega) ho.out.lst (fun a m c e hF => by
        exact hng.out a.block (by rw [List.take_length, e]; rfl) hF) hA.out (by rw [ST3.out]; omega))
      have RR := hid RV.out.ok
      obtain ⟨wq, rfl⟩ : ∃ wq, wq = wr := ⟨_, rfl⟩
      clear ho hng HV ND2 SM2 ND3 SM3 HV3 hlt hdj hA
      go_wp2_with fail
      refine SU.out.mono ?_
      rintro e w6 ⟨vs6, s6, rfl, l6, a6, k6, st1, st2⟩
      have L6 := hid l6
      have E6 := hid (Ex.start a6)
      have K6 := hid k6
      have hb6 : s6.steps + 36 * (sg K).length ≤ s.steps + 21 + 57 * t.rk + 13 * ts.length := by have := ST3.out; have h1 := HSO.out; have h2 := HOT.out; have h3 := HRL.out; omega
      have hb7 : s.steps ≤ s6.steps := by have := ST3.out; omega
      have O6 := hid (show Own w6 w.heap.size (.slice sa (nds (sg K)).length sc) (nds (sg K)) from own_kept hso.out k6 (fun i hi hF => NGS.out i hi hF))
      have hSn : (nds (sg K)).length = (sg K).length := by simp [nds]
      have hS30 : (sg K).length ≤ 30 := by have h1 := HSO.out; omega
      clear l6 a6 k6 st1 st2 SU hso hLL hKR
      go_wp2_with fail
      go_loopw [11, 46] (fun rv iv wx => ∃ (j : Nat) (vs : List Bn) (sj : St), iv = .int .i64 (j : Int) ∧ rv = .int .i64 (headr vs) ∧ j ≤ (sg K).length ∧ Hid (Left (rv1 s (2 + 2 * R) t) sj vs ((ot K ++ but t ts ++ (sg K).take j).flatMap Bn.cells) ((ot K ++ but t ts ++ (sg K).take j).flatMap Bn.items)) ∧ Hid (Ex G w6 wx pa pm sj) ∧ s6.steps ≤ sj.steps ∧ sj.steps ≤ s6.steps + 36 * j) (fun _ iv _ => (sg K).length - (intOf iv).toNat)
      case atStart => exact ⟨0, vs6, s6, rfl, rfl, Nat.zero_le _, hid (by simpa using L6.out), E6, Nat.le_refl _, by omega⟩
      case round =>
        clear E6 L6
        obtain ⟨j, vs, sj, rfl, rfl, hj, hL, hE, s1, s2⟩ := hrel
        by_cases hlt : j < (sg K).length
        · have hx : (sg K)[j]? = some (sg K)[j] := List.getElem?_eq_getElem hlt
          generalize (sg K)[j] = x at hx
          have hxn : (nds (sg K))[j]? = some (x.n : Int) := by simp [nds, hx]
          have OR := own_kept O6.out hE.out.kept (fun i hi hG => NGS.out i hi hG)
          rcases (Own.lst OR) with ⟨a', c', e, y1, y2, y3, y4⟩
          have e1 : sa = a' ∧ sc = c' := by injection e; exact ⟨by assumption, by assumption⟩
          obtain ⟨e1, e2⟩ := e1
          subst e1 e2
          rcases y4 with y | ⟨b, off, e2, hb, hc⟩
          · have h1 : (nds (sg K)).length = 0 := by rw [y]; rfl
            omega
          · subst e2
            have c1 : wr.cell? ⟨b, off + j, none⟩ = some (.int .i64 (x.n : Int)) := hc _ _ hxn
            have hlt' : (j : Int) < ((nds (sg K)).length : Int) := by omega
            have xm := List.mem_of_getElem? hx
            obtain ⟨r1, r2, r3, r4, r5⟩ := sround hL.out hx (VS.out x xm) (sg_lf xm) NDZ.out SMZ.out
            have R1 := hid r1
            have R2 := hid r2
            have R3 := hid r3
            have R4 := hid r4
            have R5 := hid r5
            have XL := hid (sg_lf xm)
            have OKJ := hid hL.out.sm.ok
            have T := hid (frontT vs (fun b hb => (r1.vb b hb).1) r1.ch OKJ.out hE.out (by omega))
            clear hx hxn hc e y1 y2 y3 OR xm r1 r2 r3 r4 r5
            go_wp2_with fail
            refine T.out.mono ?_
            rintro e w8 ⟨k, rfl, hk, e8⟩
            have P := hid (spushT (s := tk sj k) vs x (R1.out.tk k) R2.out XL.out R3.out R4.out (Sm.tk OKJ.out k).ok e8 (by show sj.steps + k ≤ _; omega))
            clear e8 T c1 hb
            go_wp2_with fail
            refine P.out.mono ?_
            rintro e w9 ⟨us, s2', rfl, l9, e9, t1, t2⟩
            have L9 := hid (R5.out k us s2' l9)
            have E9 := hid e9
            have T9 := hid (show sj.steps + k ≤ s2'.steps ∧ s2'.steps ≤ sj.steps + k + 30 from ⟨t1, t2⟩)
            clear l9 e9 t1 t2 P hL hE
            go_wp2
            go_roundw
            case rel => exact ⟨j + 1, us, s2', by go_num, rfl, by omega, L9, E9, by have := T9.out.1; omega, by have := T9.out.2; omega⟩
            case measure => simp [intOf]; omega
        · obtain rfl : j = (sg K).length := by omega
          rw [List.take_length] at hL
          have L7 := hL.out.perm (sgot_perm2 Bn.cells K (but t ts)) (sgot_perm2 Bn.items K (but t ts))
          have R6 := hid (rmd_of (by rw [RE.out, gb_most, ap_most]; rfl) RV.out (by rw [← HK.out]; exact L7) HND.out)
          have A6 := hid (show Aft F w wr pa pm sj from by
            have k6 : Kept G wq wr := K6.out.trans' hE.out.kept
            have hz6 : wq.heap.size ≤ wr.heap.size := k6.size
            refine ⟨hE.out.is.widen (fun i hi => (GW.out i hi).imp id fun q => ⟨by omega, by omega⟩) (Grow.lt HFL.out (Nat.le_trans hQ.out.size k6.size)), hQ.out.trans (k6.mono fun i hi => (GW.out i hi).imp id fun q => ⟨by omega, by omega⟩), HFL.out⟩)
          clear L7 hL hE K6 hQ O6
          go_wp2
          go_ret
          exact ⟨vs, sj, rfl, R6.out, A6.out, by omega, by omega⟩
end
end Go.Proofs.YteibfnclillnnabGreat

/- Items that change their nodes: the order of a tree while one item goes up. -/
namespace Go.Proofs.YteibfnclillnnabGreat
open Go.ChangeShapes Go.WideShapes Go.ChangeAt Go.RowKit
open Tr

/-- items bear other names -/
def ren (g : Nat → Nat) : Tr → Tr
  | lf => lf
  | nd n i k r => nd n (g i) (ren g k) (ren g r)
def renB (g : Nat → Nat) (b : Bn) : Bn := ⟨b.n, g b.i, ren g b.k⟩
def tsp (i p : Nat) : Nat → Nat := fun j => if j = i then p else if j = p then i else j
theorem tsp_i (i p : Nat) : tsp i p i = p := by simp [tsp]
theorem tsp_p {i p : Nat} : tsp i p p = i := by unfold tsp; split
                                                · assumption
                                                · simp
theorem tsp_o {i p j : Nat} (h1 : j ≠ i) (h2 : j ≠ p) : tsp i p j = j := by simp [tsp, h1, h2]
theorem tsp_tsp (i p j : Nat) : tsp i p (tsp i p j) = j := by
  by_cases h1 : j = i
  · subst h1; rw [tsp_i, tsp_p]
  · by_cases h2 : j = p
    · subst h2; rw [tsp_p, tsp_i]
    · rw [tsp_o h1 h2, tsp_o h1 h2]
section
variable {g : Nat → Nat}
theorem ren_leaf : ∀ t : Tr, leaf (ren g t) = leaf t
  | lf => rfl
  | nd _ _ _ _ => rfl
theorem ren_root : ∀ t : Tr, (ren g t).root = t.root
  | lf => rfl
  | nd _ _ _ _ => rfl
theorem ren_rkf : ∀ t : Tr, rkf (ren g t) = rkf t
  | lf => rfl
  | nd n i k r => by
    show rkf (nd n (g i) (ren g k) (ren g r)) = _
    rw [rkf_nd, rkf_nd, ren_leaf, ren_leaf, ren_rkf r]
theorem ren_rank : ∀ t : Tr, (ren g t).rank = t.rank
  | lf => rfl
  | nd n i k r => by simp [ren, rank, ren_rank r]
theorem ren_nodes : ∀ t : Tr, (ren g t).nodes = t.nodes
  | lf => rfl
  | nd n i k r => by simp [ren, nodes, ren_nodes k, ren_nodes r]
theorem ren_items : ∀ t : Tr, (ren g t).items = t.items.map g
  | lf => rfl
  | nd n i k r => by simp [ren, items, ren_items k, ren_items r]
theorem ren_fstk : ∀ t : Tr, fstk (ren g t) ↔ fstk t
  | lf => Iff.rfl
  | nd n i k r => by show rkf (ren g k) = rkf (ren g r) ↔ rkf k = rkf r; rw [ren_rkf, ren_rkf]
theorem ren_kd : ∀ t : Tr, Kd t → Kd (ren g t)
  | lf, _ => trivial
  | nd n i k r, h => by
    refine ⟨?_, ren_kd k h.2.1, ren_kd r h.2.2⟩
    rw [ren_rkf, ren_rkf, ren_leaf, ren_leaf, ren_fstk]
    exact h.1
theorem ren_id : ∀ t : Tr, (∀ j ∈ t.items, g j = j) → ren g t = t
  | lf, _ => rfl
  | nd n i k r, h => by
    show nd n (g i) (ren g k) (ren g r) = _
    rw [h i (by simp [items]), ren_id k (fun j hj => h j (by simp [items, hj])), ren_id r (fun j hj => h j (by simp [items, hj]))]
theorem ren_kids : ∀ t : Tr, kids (ren g t) = (kids t).map (renB g)
  | lf => rfl
  | nd n i k r => by simp [ren, kids, renB, ren_kids r]
end
theorem ren_tsp_id {i p : Nat} {t : Tr} (h1 : i ∉ t.items) (h2 : p ∉ t.items) : ren (tsp i p) t = t :=
  ren_id t fun _ hj => tsp_o (fun e => h1 (e ▸ hj)) (fun e => h2 (e ▸ hj))

section
variable {lt lt' : Nat → Nat → Bool} {i p : Nat}
theorem Hu.weaken (ht : Tot lt) {u v : Nat} (hv : lt u v = false) : ∀ {t : Tr}, Hu lt u t → Hu lt v t
  | lf, _ => trivial
  | nd _ j _ _, h => ⟨ht.le v u j hv h.1, h.2.1, Hu.weaken ht hv h.2.2⟩
theorem Hu.kids {u : Nat} : ∀ {t : Tr}, Hu lt u t → ∀ c ∈ kids t, Hu lt c.i c.k
  | lf, _, c, hc => by simp [Go.Proofs.YteibfnclillnnabGreat.kids] at hc
  | nd n j k r, h, c, hc => by
    simp only [Go.Proofs.YteibfnclillnnabGreat.kids, List.mem_cons] at hc
    rcases hc with rfl | hc
    · exact h.2.1
    · exact Hu.kids h.2.2 c hc
/-- the order but for i: of others as ever; what is below i against what is above it -/
def Hj (lt : Nat → Nat → Bool) (i : Nat) : Nat → Tr → Prop
  | _, lf => True
  | u, nd _ j k r => (if j = i then Hu lt u k else lt j u = false ∧ Hj lt i j k) ∧ Hj lt i u r
/-- what is below i is not before it -/
def Lo (lt : Nat → Nat → Bool) (i : Nat) : Tr → Prop
  | lf => True
  | nd _ j k r => (if j = i then Hu lt i k else Lo lt i k) ∧ Lo lt i r
theorem hj_absent : ∀ {u : Nat} {t : Tr}, i ∉ t.items → Hj lt i u t → Hu lt u t
  | _, lf, _, _ => trivial
  | u, nd n j k r, hn, h => by
    simp only [items, List.mem_cons, List.mem_append, not_or] at hn
    have h1 := h.1
    rw [if_neg (fun e => hn.1 e.symm)] at h1
    exact ⟨h1.1, hj_absent hn.2.1 h1.2, hj_absent hn.2.2 h.2⟩
theorem lo_absent : ∀ {t : Tr}, i ∉ t.items → Lo lt i t
  | lf, _ => trivial
  | nd n j k r, hn => by
    simp only [items, List.mem_cons, List.mem_append, not_or] at hn
    refine ⟨?_, lo_absent hn.2.2⟩
    rw [if_neg (fun e => hn.1 e.symm)]
    exact lo_absent hn.2.1

/-- node and item of a forest's top -/
def ktop : Tr → List (Nat × Nat)
  | lf => []
  | nd n i _ r => (n, i) :: ktop r
theorem ktop_item {x : Nat} : ∀ {t : Tr}, (x, i) ∈ ktop t → i ∈ t.items
  | lf, h => by simp [ktop] at h
  | nd n j k r, h => by
    simp only [ktop, List.mem_cons, Prod.mk.injEq] at h
    simp only [items, List.mem_cons, List.mem_append]
    rcases h with h | h
    · exact Or.inl h.2
    · exact Or.inr (Or.inr (ktop_item h))
theorem hj_top (ht : Tot lt) {x v : Nat} (hv : lt p v = false) : ∀ {k : Tr}, (x, i) ∈ ktop k → i ≠ p → p ∉ k.items → k.items.Nodup → Hj lt i p k → Hu lt v (ren (tsp i p) k)
  | lf, h, _, _, _, _ => by simp [ktop] at h
  | nd n j kk r, h, hip, hp, hn, hj => by
    simp only [items, List.mem_cons, List.mem_append, not_or, List.nodup_cons, List.nodup_append] at hp hn
    obtain ⟨⟨n1, n2⟩, n3, n4, n5⟩ := hn
    obtain ⟨p1, p2, p3⟩ := hp
    by_cases e : j = i
    · subst e
      have h1 := hj.1
      rw [if_pos rfl] at h1
      show lt (tsp j p j) v = false ∧ Hu lt (tsp j p j) (ren (tsp j p) kk) ∧ Hu lt v (ren (tsp j p) r)
      rw [tsp_i, ren_tsp_id n1 p2, ren_tsp_id n2 p3]
      exact ⟨hv, h1, Hu.weaken ht hv (hj_absent n2 hj.2)⟩
    · have h1 := hj.1
      rw [if_neg e] at h1
      simp only [ktop, List.mem_cons, Prod.mk.injEq] at h
      have hr : (x, i) ∈ ktop r := h.resolve_left fun q => e q.2.symm
      have ir := ktop_item hr
      have ik : i ∉ kk.items := fun q => n5 i q i ir rfl
      show lt (tsp i p j) v = false ∧ Hu lt (tsp i p j) (ren (tsp i p) kk) ∧ Hu lt v (ren (tsp i p) r)
      rw [tsp_o e (fun q => p1 q.symm), ren_tsp_id ik p2]
      exact ⟨ht.le v p j hv h1.1, hj_absent ik h1.2, hj_top ht hv hr hip p3 n4 hj.2⟩

/-- the node y, with the item p, is above x, with the item i -/
def Pr (x i y p : Nat) : Tr → Prop
  | lf => False
  | nd n j k r => (n = y ∧ j = p ∧ (x, i) ∈ ktop k) ∨ Pr x i y p k ∨ Pr x i y p r
theorem pr_items {x y : Nat} : ∀ {t : Tr}, Pr x i y p t → i ∈ t.items ∧ p ∈ t.items
  | lf, h => h.elim
  | nd n j k r, h => by
    simp only [items, List.mem_cons, List.mem_append]
    rcases h with ⟨_, h2, h3⟩ | h | h
    · exact ⟨Or.inr (Or.inl (ktop_item h3)), Or.inl h2.symm⟩
    · exact ⟨Or.inr (Or.inl (pr_items h).1), Or.inr (Or.inl (pr_items h).2)⟩
    · exact ⟨Or.inr (Or.inr (pr_items h).1), Or.inr (Or.inr (pr_items h).2)⟩
theorem hj_swap (ht : Tot lt) {x y : Nat} (hip : i ≠ p) : ∀ {u : Nat} {t : Tr}, Pr x i y p t → t.items.Nodup → Hj lt i u t → Hj lt i u (ren (tsp i p) t)
  | _, lf, h, _, _ => h.elim
  | u, nd n j k r, h, hn, hj => by
    simp only [items, List.nodup_cons, List.mem_append, not_or, List.nodup_append] at hn
    obtain ⟨⟨n1, n2⟩, n3, n4, n5⟩ := hn
    show (if tsp i p j = i then Hu lt u (ren (tsp i p) k) else lt (tsp i p j) u = false ∧ Hj lt i (tsp i p j) (ren (tsp i p) k)) ∧ Hj lt i u (ren (tsp i p) r)
    have h1 := hj.1
    rcases h with ⟨e1, e2, e3⟩ | h | h
    · subst e2
      have hik := ktop_item e3
      rw [if_neg (fun e => hip e.symm)] at h1
      rw [tsp_p, if_pos rfl, ren_tsp_id (t := r) (fun q => n5 i hik i q rfl) n2]
      exact ⟨hj_top ht h1.1 e3 hip n1 n3 h1.2, hj.2⟩
    · obtain ⟨q1, q2⟩ := pr_items h
      have ji : j ≠ i := fun e => n1 (e ▸ q1)
      have jp : j ≠ p := fun e => n1 (e ▸ q2)
      rw [if_neg ji] at h1
      rw [tsp_o ji jp, if_neg ji, ren_tsp_id (t := r) (fun q => n5 i q1 i q rfl) (fun q => n5 p q2 p q rfl)]
      exact ⟨⟨h1.1, hj_swap ht hip h n3 h1.2⟩, hj.2⟩
    · obtain ⟨q1, q2⟩ := pr_items h
      have ji : j ≠ i := fun e => n2 (e ▸ q1)
      have jp : j ≠ p := fun e => n2 (e ▸ q2)
      rw [tsp_o ji jp, ren_tsp_id (t := k) (fun q => n5 i q i q1 rfl) (fun q => n5 p q p q2 rfl)]
      exact ⟨h1, hj_swap ht hip h n4 hj.2⟩
theorem lo_swap (ht : Tot lt) {x y : Nat} (hip : i ≠ p) (hlt : lt i p = true) : ∀ {u : Nat} {t : Tr}, Pr x i y p t → t.items.Nodup → Hj lt i u t → Lo lt i (ren (tsp i p) t)
  | _, lf, h, _, _ => h.elim
  | u, nd n j k r, h, hn, hj => by
    simp only [items, List.nodup_cons, List.mem_append, not_or, List.nodup_append] at hn
    obtain ⟨⟨n1, n2⟩, n3, n4, n5⟩ := hn
    show (if tsp i p j = i then Hu lt i (ren (tsp i p) k) else Lo lt i (ren (tsp i p) k)) ∧ Lo lt i (ren (tsp i p) r)
    have h1 := hj.1
    rcases h with ⟨e1, e2, e3⟩ | h | h
    · subst e2
      have hik := ktop_item e3
      have hir : i ∉ r.items := fun q => n5 i hik i q rfl
      rw [if_neg (fun e => hip e.symm)] at h1
      rw [tsp_p, if_pos rfl, ren_tsp_id (t := r) hir n2]
      exact ⟨hj_top ht (ht.one _ _ hlt) e3 hip n1 n3 h1.2, lo_absent hir⟩
    · obtain ⟨q1, q2⟩ := pr_items h
      have ji : j ≠ i := fun e => n1 (e ▸ q1)
      have jp : j ≠ p := fun e => n1 (e ▸ q2)
      have hir : i ∉ r.items := fun q => n5 i q1 i q rfl
      rw [if_neg ji] at h1
      rw [tsp_o ji jp, if_neg ji, ren_tsp_id (t := r) hir (fun q => n5 p q2 p q rfl)]
      exact ⟨lo_swap ht hip hlt h n3 h1.2, lo_absent hir⟩
    · obtain ⟨q1, q2⟩ := pr_items h
      have ji : j ≠ i := fun e => n2 (e ▸ q1)
      have jp : j ≠ p := fun e => n2 (e ▸ q2)
      have hik : i ∉ k.items := fun q => n5 i q i q1 rfl
      rw [tsp_o ji jp, if_neg ji, ren_tsp_id (t := k) hik (fun q => n5 p q p q2 rfl)]
      exact ⟨lo_absent hik, lo_swap ht hip hlt h n4 hj.2⟩
theorem hj_top_done {x : Nat} (hlt : lt i p = false) : ∀ {k : Tr}, (x, i) ∈ ktop k → k.items.Nodup → Hj lt i p k → Lo lt i k → Hu lt p k
  | lf, h, _, _, _ => by simp [ktop] at h
  | nd n j kk r, h, hn, hj, hl => by
    simp only [items, List.mem_append, not_or, List.nodup_cons, List.nodup_append] at hn
    obtain ⟨⟨n1, n2⟩, n3, n4, n5⟩ := hn
    have h1 := hj.1
    have h2 := hl.1
    by_cases e : j = i
    · subst e
      rw [if_pos rfl] at h2
      exact ⟨hlt, h2, hj_absent n2 hj.2⟩
    · rw [if_neg e] at h1
      simp only [ktop, List.mem_cons, Prod.mk.injEq] at h
      have hr : (x, i) ∈ ktop r := h.resolve_left fun q => e q.2.symm
      exact ⟨h1.1, hj_absent (fun q => n5 i q i (ktop_item hr) rfl) h1.2, hj_top_done hlt hr n4 hj.2 hl.2⟩
theorem hj_done {x y : Nat} (hip : i ≠ p) (hlt : lt i p = false) : ∀ {u : Nat} {t : Tr}, Pr x i y p t → t.items.Nodup → Hj lt i u t → Lo lt i t → Hu lt u t
  | _, lf, h, _, _, _ => h.elim
  | u, nd n j k r, h, hn, hj, hl => by
    simp only [items, List.nodup_cons, List.mem_append, not_or, List.nodup_append] at hn
    obtain ⟨⟨n1, n2⟩, n3, n4, n5⟩ := hn
    have h1 := hj.1
    have h2 := hl.1
    rcases h with ⟨e1, e2, e3⟩ | h | h
    · subst e2
      have ji : j ≠ i := fun e => hip e.symm
      rw [if_neg ji] at h1 h2
      exact ⟨h1.1, hj_top_done hlt e3 n3 h1.2 h2, hj_absent (fun q => n5 i (ktop_item e3) i q rfl) hj.2⟩
    · obtain ⟨q1, q2⟩ := pr_items h
      have ji : j ≠ i := fun e => n1 (e ▸ q1)
      rw [if_neg ji] at h1 h2
      exact ⟨h1.1, hj_done hip hlt h n3 h1.2 h2, hj_absent (fun q => n5 i q1 i q rfl) hj.2⟩
    · obtain ⟨q1, q2⟩ := pr_items h
      have ji : j ≠ i := fun e => n2 (e ▸ q1)
      rw [if_neg ji] at h1
      exact ⟨h1.1, hj_absent (fun q => n5 i q i q1 rfl) h1.2, hj_done hip hlt h n4 hj.2 hl.2⟩

/-- an order that is another one where i is, and there i only earlier -/
structure Low (lt lt' : Nat → Nat → Bool) (i : Nat) : Prop where
  off : ∀ a b, a ≠ i → b ≠ i → lt' a b = lt a b
  low : ∀ c, c ≠ i → lt c i = false → lt' c i = false
theorem Low.refl (lt : Nat → Nat → Bool) (i : Nat) : Low lt lt i := ⟨fun _ _ _ _ => rfl, fun _ _ h => h⟩
theorem Low.under (hw : Low lt lt' i) : ∀ {k : Tr}, i ∉ k.items → Hu lt i k → Hu lt' i k
  | lf, _, _ => trivial
  | nd n j kk r, hn, h => by
    simp only [items, List.mem_cons, List.mem_append, not_or] at hn
    exact ⟨hw.low j (fun e => hn.1 e.symm) h.1, Hu.turn hw.off (fun e => hn.1 e.symm) hn.2.1 h.2.1, Low.under hw hn.2.2 h.2.2⟩
theorem hj_start (ht : Tot lt) (hw : Low lt lt' i) : ∀ {u : Nat} {t : Tr}, Hu lt u t → u ≠ i → t.items.Nodup → Hj lt' i u t ∧ Lo lt' i t
  | _, lf, _, _, _ => ⟨trivial, trivial⟩
  | u, nd n j k r, h, hu, hn => by
    simp only [items, List.nodup_cons, List.mem_append, not_or, List.nodup_append] at hn
    obtain ⟨⟨n1, n2⟩, n3, n4, n5⟩ := hn
    obtain ⟨r1, r2⟩ := hj_start ht hw h.2.2 hu n4
    by_cases e : j = i
    · subst e
      refine ⟨⟨?_, r1⟩, ?_, r2⟩
      · rw [if_pos rfl]
        exact Hu.turn hw.off hu n1 (Hu.weaken ht h.1 h.2.1)
      · rw [if_pos rfl]
        exact hw.under n1 h.2.1
    · obtain ⟨k1, k2⟩ := hj_start ht hw h.2.1 e n3
      refine ⟨⟨?_, r1⟩, ?_, r2⟩
      · rw [if_neg e]
        exact ⟨by rw [hw.off j u e hu]; exact h.1, k1⟩
      · rw [if_neg e]; exact k2

/-- the same of a tree by itself -/
def Jb (lt : Nat → Nat → Bool) (i : Nat) (b : Bn) : Prop := Kd b.k ∧ (if b.i = i then (∀ c ∈ kids b.k, Hu lt c.i c.k) else Hj lt i b.i b.k)
def LoB (lt : Nat → Nat → Bool) (i : Nat) (b : Bn) : Prop := if b.i = i then Hu lt i b.k else Lo lt i b.k
def PrB (x i y p : Nat) (b : Bn) : Prop := (b.n = y ∧ b.i = p ∧ (x, i) ∈ ktop b.k) ∨ Pr x i y p b.k
section
variable {b : Bn}
theorem jb_start (ht : Tot lt) (hw : Low lt lt' i) (h : Gb lt b) (hn : b.items.Nodup) : Jb lt' i b ∧ LoB lt' i b := by
  simp only [Bn.items, List.nodup_cons] at hn
  by_cases e : b.i = i
  · refine ⟨⟨h.1, ?_⟩, ?_⟩
    · rw [if_pos e]
      have : Hu lt' i b.k := hw.under (e ▸ hn.1) (e ▸ h.2)
      exact Hu.kids this
    · unfold LoB; rw [if_pos e]; exact hw.under (e ▸ hn.1) (e ▸ h.2)
  · obtain ⟨k1, k2⟩ := hj_start ht hw h.2 e hn.2
    exact ⟨⟨h.1, by rw [if_neg e]; exact k1⟩, by unfold LoB; rw [if_neg e]; exact k2⟩
theorem prb_items {x y : Nat} (h : PrB x i y p b) : i ∈ b.items ∧ p ∈ b.items := by
  simp only [Bn.items, List.mem_cons]
  rcases h with ⟨_, h2, h3⟩ | h
  · exact ⟨Or.inr (ktop_item h3), Or.inl h2.symm⟩
  · exact ⟨Or.inr (pr_items h).1, Or.inr (pr_items h).2⟩
theorem jb_swap (ht : Tot lt) {x y : Nat} (hip : i ≠ p) (hp : PrB x i y p b) (hn : b.items.Nodup) (h : Jb lt i b) : Jb lt i (renB (tsp i p) b) := by
  simp only [Bn.items, List.nodup_cons] at hn
  refine ⟨ren_kd _ h.1, ?_⟩
  have h1 := h.2
  have irr : lt p p = false := by cases e : lt p p
                                  · rfl
                                  · exact (ht.one _ _ e).symm.trans e ▸ rfl
  show if tsp i p b.i = i then _ else _
  rcases hp with ⟨_, e2, e3⟩ | hp
  · rw [if_neg (fun e => hip (e.symm.trans e2))] at h1
    rw [e2, tsp_p, if_pos rfl]
    rw [e2] at h1
    exact Hu.kids (hj_top ht irr e3 hip (e2 ▸ hn.1) hn.2 h1)
  · obtain ⟨q1, q2⟩ := pr_items hp
    have ji : b.i ≠ i := fun e => hn.1 (e ▸ q1)
    have jp : b.i ≠ p := fun e => hn.1 (e ▸ q2)
    rw [if_neg ji] at h1
    rw [tsp_o ji jp, if_neg ji]
    show Hj lt i (tsp i p b.i) (ren (tsp i p) b.k)
    rw [tsp_o ji jp]
    exact hj_swap ht hip hp hn.2 h1
theorem lob_swap (ht : Tot lt) {x y : Nat} (hip : i ≠ p) (hlt : lt i p = true) (hp : PrB x i y p b) (hn : b.items.Nodup) (h : Jb lt i b) : LoB lt i (renB (tsp i p) b) := by
  simp only [Bn.items, List.nodup_cons] at hn
  have h1 := h.2
  show if tsp i p b.i = i then _ else _
  rcases hp with ⟨_, e2, e3⟩ | hp
  · rw [if_neg (fun e => hip (e.symm.trans e2))] at h1
    rw [e2, tsp_p, if_pos rfl]
    rw [e2] at h1
    exact hj_top ht (ht.one _ _ hlt) e3 hip (e2 ▸ hn.1) hn.2 h1
  · obtain ⟨q1, q2⟩ := pr_items hp
    have ji : b.i ≠ i := fun e => hn.1 (e ▸ q1)
    have jp : b.i ≠ p := fun e => hn.1 (e ▸ q2)
    rw [if_neg ji] at h1
    rw [tsp_o ji jp, if_neg ji]
    exact lo_swap ht hip hlt hp hn.2 h1
/-- it is where it belongs: the order is whole -/
theorem gb_done {x y : Nat} (hip : i ≠ p) (hlt : lt i p = false) (hp : PrB x i y p b) (hn : b.items.Nodup) (h : Jb lt i b) (hl : LoB lt i b) : Gb lt b := by
  simp only [Bn.items, List.nodup_cons] at hn
  refine ⟨h.1, ?_⟩
  have h1 := h.2
  unfold LoB at hl
  rcases hp with ⟨_, e2, e3⟩ | hp
  · have ji : b.i ≠ i := fun e => hip (e.symm.trans e2)
    rw [if_neg ji] at h1 hl
    rw [e2] at h1 ⊢
    exact hj_top_done hlt e3 hn.2 h1 hl
  · have ji : b.i ≠ i := fun e => hn.1 (e ▸ (pr_items hp).1)
    rw [if_neg ji] at h1 hl
    exact hj_done hip hlt hp hn.2 h1 hl
theorem gb_top (e : b.i = i) (h : Jb lt i b) (hl : LoB lt i b) : Gb lt b := by
  unfold LoB at hl
  rw [if_pos e] at hl
  exact ⟨h.1, e ▸ hl⟩
theorem gt_top (e : b.i = i) (h : Jb lt i b) : Gt lt b := by
  have h1 := h.2
  rw [if_pos e] at h1
  refine ⟨h.1, fun c hc => ⟨?_, h1 c hc⟩⟩
  have : ∀ {t : Tr}, Kd t → ∀ c ∈ kids t, Kd c.k := fun {t} => by
    induction t with
    | lf => intro _ c hc; simp [kids] at hc
    | nd n i k r _ ih =>
      intro hk c hc
      simp only [kids, List.mem_cons] at hc
      rcases hc with rfl | hc
      · exact hk.2.1
      · exact ih hk.2.2 c hc
  exact this h.1 c hc
end
end
end Go.Proofs.YteibfnclillnnabGreat

/- The walk of way: a node and what is above it. -/
namespace Go.Proofs.YteibfnclillnnabGreat
open Go.ChangeShapes Go.WideShapes Go.ChangeAt Go.RowKit

/-- up from a node, so many at most -/
def wayS (s : St) : Nat → Int → List Int
  | 0, _ => []
  | k + 1, n => if n = -1 then [] else n :: wayS s k (cellS s n 0)

section
variable {F : Nat → Prop} {w w' : World} {pa pm : Nat} {s : St}
set_option maxHeartbeats 2000000 in
theorem wayT (n : Int) (h : IsA w F pa pm s) (hs : s.steps ≤ 99990000) :
    Calls Tryz.prog 73 #[.pointer (some ⟨pa, 0, none⟩), .int .i64 n] w fun e w' =>
      ∃ v, e = .returned v ∧ Own w' w.heap.size v (wayS s 16 n) ∧ IsA w' F pa pm (tk s (wayS s 16 n).length) ∧ (wayS s 16 n).length ≤ 16 ∧ Kept F w w' := by
  have HFL := hid h.lt
  have HA0 := hid h
  clear h
  go_enter Tryz.func73, Tryz.ntmps73
  go_wp2
  go_loopw [1, 5] (fun nv lv wr => ∃ (m : Int) (done : List Int) (k : Nat), nv = .int .i64 m ∧ Hid (wayS s 16 n = done ++ wayS s k m) ∧ done.length + k = 16 ∧ Hid (Own wr w.heap.size lv done) ∧ Hid (IsA wr F pa pm (tk s done.length)) ∧ Hid (Kept F w wr)) (fun _ lv _ => 16 - lenV lv)
  case atStart => exact ⟨n, [], 16, rfl, hid rfl, rfl, hid (Own.nil _ _), HA0, hid (Kept.refl _ _)⟩
  case round =>
    clear HA0
    obtain ⟨m, done, k, rfl, hw, hk, ho, hA, hK⟩ := hrel
    obtain ⟨la, lc, rfl⟩ := own_form ho.out
    by_cases hm : m = -1
    · have HD : Hid (wayS s 16 n = done) := hid (by rw [hw.out, hm]; cases k <;> simp [wayS])
      subst hm
      go_wp2
      go_ret
      exact ⟨_, rfl, by rw [HD.out]; exact ho.out, by rw [HD.out]; exact hA.out, by rw [HD.out]; omega, hK.out⟩
    · have hmb : (m != -1) = true := by simp [hm]
      by_cases hl : done.length < 16
      · have hl' : (done.length : Int) < 16 := by omega
        obtain ⟨k', rfl⟩ : ∃ k', k = k' + 1 := ⟨k - 1, by omega⟩
        have HW := hid (show wayS s 16 n = (done ++ [m]) ++ wayS s k' (cellS s m 0) by rw [hw.out]; simp [wayS, hm])
        have KK := hid hK.out
        have hsz := hK.out.size
        have OA := hid (fun (wx : World) (o : Obj) (hx : Own wx w.heap.size (.slice la done.length lc) done) => (show (wx.alloc o).ownsRow w.heap.size 3 1 (.slice la done.length lc) done.length (row int1 done) from World.ownsRow.alloc hx _))
        have hrow : Hid (∀ i, (Value.slice la done.length lc).ownBlock = some i → w.heap.size ≤ i) := hid (fun i hi => (World.ownsRow.lt ho.out i hi).1)
        clear hw hm
        go_wp2_with (at_builtin; refine wpList_append_lst rfl (.tmp 16) (.tmp 18) rfl w.heap.size _ _ done.length (row int1 done) [m] rfl rfl (by exact OA.out _ _ ho.out) (by exact (own_lit0 _ 0 (Nat.zero_le _) [m] (by simp) _ rfl).lst) (by simp; omega) (by simp; omega) ?_; intro v4 w4 o4 g4; have O4 := hid o4; have G4 := hid g4; clear o4 g4)
        have K4 := hid ((KK.out.alloc (.cells #[.int .i64 m] 3)).grown G4.out (fun i hi => Or.inr (hrow.out i hi)))
        have A4 := hid (hA.out.kept (((Kept.refl (fun i => w.heap.size ≤ i) wr).alloc (.cells #[.int .i64 m] 3)).grown G4.out (fun i hi => Or.inl (hrow.out i hi))) (fun i hF hi => by have := HFL.out i hF; omega))
        have C5 := hid (cellT m 0 (Ex.start A4.out) (by show s.steps + _ ≤ _; omega))
        rw [show cellS (tk s done.length) m 0 = cellS s m 0 from rfl] at C5
        clear KK G4 OA hrow hA hK ho
        refine C5.out.mono ?_
        rintro e w5 ⟨rfl, h5⟩
        have H5 := hid (show IsA w5 F pa pm (tk s (done ++ [m]).length) from by have := h5.is; rw [tk_tk] at this; simpa using this)
        have O5 := hid (show Own w5 w.heap.size v4 (done ++ [m]) from by
          have : Own w4 w.heap.size v4 (done ++ [m]) := by
            have := O4.out
            unfold Own
            rw [row_append, List.length_append]
            exact this
          exact own_kept this h5.kept (fun i hi hF => by have := (World.ownsRow.lt this i hi).1; have := HFL.out i hF; omega))
        have K5 := hid (K4.out.trans' h5.kept)
        clear h5 C5 O4 K4 A4
        obtain ⟨va, vc, rfl⟩ := own_form O5.out
        go_wp2
        go_roundw
        case rel => exact ⟨cellS s m 0, done ++ [m], k', rfl, HW, by simp; omega, hid (by have := O5.out; rwa [List.length_append] at this), H5, K5⟩
        case measure => simp [lenV]; omega
      · have hl' : ¬ (done.length : Int) < 16 := by omega
        have HD : Hid (wayS s 16 n = done) := hid (by rw [hw.out, show k = 0 by omega]; simp [wayS])
        clear hw hm
        go_wp2
        go_ret
        exact ⟨_, rfl, by rw [HD.out]; exact ho.out, by rw [HD.out]; exact hA.out, by rw [HD.out]; omega, hK.out⟩
end
end Go.Proofs.YteibfnclillnnabGreat

/- The way up from a node; two nodes change their items, in memory. -/
namespace Go.Proofs.YteibfnclillnnabGreat
open Go.ChangeShapes Go.WideShapes Go.ChangeAt Go.RowKit
open Tr

/-- nodes and their items -/
def ni : Tr → List (Nat × Nat)
  | lf => []
  | nd n i k r => (n, i) :: (ni k ++ ni r)
def niB (b : Bn) : List (Nat × Nat) := (b.n, b.i) :: ni b.k
theorem ni_item {i : Nat} : ∀ {t : Tr}, i ∈ t.items → ∃ x, (x, i) ∈ ni t
  | lf, h => by simp [items] at h
  | nd n j k r, h => by
    simp only [items, List.mem_cons, List.mem_append] at h
    rcases h with rfl | h | h
    · exact ⟨n, by simp [ni]⟩
    · obtain ⟨x, hx⟩ := ni_item h; exact ⟨x, by simp [ni, hx]⟩
    · obtain ⟨x, hx⟩ := ni_item h; exact ⟨x, by simp [ni, hx]⟩
theorem nib_item {i : Nat} {b : Bn} (h : i ∈ b.items) : ∃ x, (x, i) ∈ niB b := by
  simp only [Bn.items, List.mem_cons] at h
  rcases h with rfl | h
  · exact ⟨b.n, by simp [niB]⟩
  · obtain ⟨x, hx⟩ := ni_item h; exact ⟨x, by simp [niB, hx]⟩
theorem ni_ren {g : Nat → Nat} : ∀ {t : Tr} {n i : Nat}, (n, i) ∈ ni t → (n, g i) ∈ ni (ren g t)
  | lf, n, i, h => by simp [ni] at h
  | nd m j k r, n, i, h => by
    simp only [ni, List.mem_cons, Prod.mk.injEq, List.mem_append, ren] at h ⊢
    rcases h with ⟨rfl, rfl⟩ | h | h
    · exact Or.inl ⟨rfl, rfl⟩
    · exact Or.inr (Or.inl (ni_ren h))
    · exact Or.inr (Or.inr (ni_ren h))
theorem nib_ren {g : Nat → Nat} {b : Bn} {n i : Nat} (h : (n, i) ∈ niB b) : (n, g i) ∈ niB (renB g b) := by
  simp only [niB, List.mem_cons, Prod.mk.injEq, renB] at h ⊢
  rcases h with ⟨rfl, rfl⟩ | h
  · exact Or.inl ⟨rfl, rfl⟩
  · exact Or.inr (ni_ren h)
theorem ktop_ni {x i : Nat} : ∀ {t : Tr}, (x, i) ∈ ktop t → (x, i) ∈ ni t
  | lf, h => by simp [ktop] at h
  | nd n j k r, h => by
    simp only [ktop, ni, List.mem_cons, List.mem_append] at h ⊢
    rcases h with h | h
    · exact Or.inl h
    · exact Or.inr (Or.inr (ktop_ni h))
theorem pr_ni {x i y p : Nat} : ∀ {t : Tr}, Pr x i y p t → (x, i) ∈ ni t ∧ (y, p) ∈ ni t
  | lf, h => h.elim
  | nd n j k r, h => by
    simp only [ni, List.mem_cons, List.mem_append, Prod.mk.injEq]
    rcases h with ⟨rfl, rfl, h⟩ | h | h
    · exact ⟨Or.inr (Or.inl (ktop_ni h)), Or.inl ⟨rfl, rfl⟩⟩
    · exact ⟨Or.inr (Or.inl (pr_ni h).1), Or.inr (Or.inl (pr_ni h).2)⟩
    · exact ⟨Or.inr (Or.inr (pr_ni h).1), Or.inr (Or.inr (pr_ni h).2)⟩
theorem prb_ni {x i y p : Nat} {b : Bn} (h : PrB x i y p b) : (x, i) ∈ niB b ∧ (y, p) ∈ niB b := by
  simp only [niB, List.mem_cons, Prod.mk.injEq]
  rcases h with ⟨rfl, rfl, h⟩ | h
  · exact ⟨Or.inr (ktop_ni h), Or.inl ⟨rfl, rfl⟩⟩
  · exact ⟨Or.inr (pr_ni h).1, Or.inr (pr_ni h).2⟩
theorem ktop_ren {g : Nat → Nat} {x i : Nat} : ∀ {t : Tr}, (x, i) ∈ ktop t → (x, g i) ∈ ktop (ren g t)
  | lf, h => by simp [ktop] at h
  | nd n j k r, h => by
    simp only [ktop, ren, List.mem_cons, Prod.mk.injEq] at h ⊢
    rcases h with ⟨rfl, rfl⟩ | h
    · exact Or.inl ⟨rfl, rfl⟩
    · exact Or.inr (ktop_ren h)
theorem pr_ren {g : Nat → Nat} {x i y p : Nat} : ∀ {t : Tr}, Pr x i y p t → Pr x (g i) y (g p) (ren g t)
  | lf, h => h.elim
  | nd n j k r, h => by
    rcases h with ⟨rfl, rfl, h⟩ | h | h
    · exact Or.inl ⟨rfl, rfl, ktop_ren h⟩
    · exact Or.inr (Or.inl (pr_ren h))
    · exact Or.inr (Or.inr (pr_ren h))
/-- y is above x -/
def PrN (b : Bn) (x y : Nat) : Prop := ∃ i p, PrB x i y p b
theorem prn_ren {g : Nat → Nat} {b : Bn} {x y : Nat} (h : PrN b x y) : PrN (renB g b) x y := by
  obtain ⟨i, p, h⟩ := h
  refine ⟨g i, g p, ?_⟩
  rcases h with ⟨rfl, rfl, h⟩ | h
  · exact Or.inl ⟨rfl, rfl, ktop_ren h⟩
  · exact Or.inr (pr_ren h)

section
variable {L : Nat → Bool} {f f' : Nat → Nat → Int}
theorem Vw.pair {x i : Nat} : ∀ {up : Int} {t : Tr}, Vw L f up t → (x, i) ∈ ni t → L x = true ∧ L i = true ∧ f x 6 = (i : Int) ∧ f i 9 = (x : Int)
  | _, lf, _, h => by simp [ni] at h
  | up, nd n j k r, hv, h => by
    simp only [ni, List.mem_cons, Prod.mk.injEq, List.mem_append] at h
    rcases h with ⟨rfl, rfl⟩ | h | h
    · exact ⟨hv.1.1, hv.1.2.1, hv.1.2.2.2.2.2.2.2.1, hv.1.2.2.2.2.2.2.2.2⟩
    · exact Vw.pair hv.2.1 h
    · exact Vw.pair hv.2.2 h
theorem Vb.pair {b : Bn} {x i : Nat} (hv : Vb L f b) (h : (x, i) ∈ niB b) : L x = true ∧ L i = true ∧ f x 6 = (i : Int) ∧ f i 9 = (x : Int) := by
  simp only [niB, List.mem_cons, Prod.mk.injEq] at h
  rcases h with ⟨rfl, rfl⟩ | h
  · exact ⟨hv.ln, hv.li, hv.item, hv.node⟩
  · exact Vw.pair hv.kids h
theorem Vw.top {x i : Nat} : ∀ {up : Int} {t : Tr}, Vw L f up t → (x, i) ∈ ktop t → f x 0 = up
  | _, lf, _, h => by simp [ktop] at h
  | up, nd n j k r, hv, h => by
    simp only [ktop, List.mem_cons, Prod.mk.injEq] at h
    rcases h with ⟨rfl, rfl⟩ | h
    · exact hv.1.2.2.1
    · exact Vw.top hv.2.2 h
theorem Vw.above {x i y p : Nat} : ∀ {up : Int} {t : Tr}, Vw L f up t → Pr x i y p t → f x 0 = (y : Int)
  | _, lf, _, h => h.elim
  | up, nd n j k r, hv, h => by
    rcases h with ⟨rfl, rfl, h⟩ | h | h
    · exact Vw.top hv.2.1 h
    · exact Vw.above hv.2.1 h
    · exact Vw.above hv.2.2 h
theorem Vb.above {b : Bn} {x y : Nat} (hv : Vb L f b) (h : PrN b x y) : f x 0 = (y : Int) := by
  obtain ⟨i, p, h⟩ := h
  rcases h with ⟨rfl, rfl, h⟩ | h
  · exact Vw.top hv.kids h
  · exact Vw.above hv.kids h
theorem Vw.ren {g : Nat → Nat} : ∀ {up : Int} {t : Tr}, Vw L f up t → (∀ n i, (n, i) ∈ ni t → L (g i) = true ∧ f' n 6 = (g i : Int) ∧ f' (g i) 9 = (n : Int) ∧ ∀ j, j ≤ 4 → f' n j = f n j) → Vw L f' up (ren g t)
  | _, lf, _, _ => trivial
  | up, nd n i k r, ⟨⟨h1, h2, h3, h4, h5, h6, h7, h8, h9⟩, hk, hr⟩, hf => by
    obtain ⟨a1, a2, a3, a4⟩ := hf n i (by simp [ni])
    refine ⟨⟨h1, a1, by rw [a4 0 (by omega)]; exact h3, ?_, by rw [a4 2 (by omega)]; exact h5, ?_, ?_, a2, a3⟩, Vw.ren hk fun n i h => hf n i (by simp [ni, h]), Vw.ren hr fun n i h => hf n i (by simp [ni, h])⟩
    · rw [a4 1 (by omega), ren_root]; exact h4
    · rw [a4 3 (by omega), ren_root]; exact h6
    · rw [a4 4 (by omega), ren_rkf]; exact h7
/-- the numbers behind a Swap -/
def swF (f : Nat → Nat → Int) (x y i p : Nat) : Nat → Nat → Int := put (put (put (put f x 6 (p : Int)) p 9 (x : Int)) y 6 (i : Int)) i 9 (y : Int)
theorem swF_low {x y i p c j : Nat} (hj : j ≠ 6) (hj9 : j ≠ 9) : swF f x y i p c j = f c j := by
  unfold swF; rw [put_nj hj9, put_nj hj, put_nj hj9, put_nj hj]
theorem swF_six {x y i p c : Nat} (hxy : x ≠ y) : swF f x y i p c 6 = if c = x then (p : Int) else if c = y then (i : Int) else f c 6 := by
  unfold swF
  rw [put_nj (by decide)]
  by_cases h1 : c = y
  · subst h1; rw [put_at, if_neg (fun e => hxy e.symm), if_pos rfl]
  · rw [put_ne h1, put_nj (by decide)]
    by_cases h2 : c = x
    · subst h2; rw [put_at, if_pos rfl]
    · rw [put_ne h2, if_neg h2, if_neg h1]
theorem swF_nine {x y i p c : Nat} (hip : i ≠ p) : swF f x y i p c 9 = if c = i then (y : Int) else if c = p then (x : Int) else f c 9 := by
  unfold swF
  by_cases h1 : c = i
  · subst h1; rw [put_at, if_pos rfl]
  · rw [put_ne h1, put_nj (by decide), if_neg h1]
    by_cases h2 : c = p
    · subst h2; rw [put_at, if_pos rfl]
    · rw [put_ne h2, put_nj (by decide), if_neg h2]
theorem Vb.swap {b : Bn} {x i y p : Nat} (hv : Vb L f b) (hx : (x, i) ∈ niB b) (hy : (y, p) ∈ niB b) (hxy : x ≠ y) : Vb L (swF f x y i p) (renB (tsp i p) b) := by
  obtain ⟨x1, x2, x3, x4⟩ := hv.pair hx
  obtain ⟨y1, y2, y3, y4⟩ := hv.pair hy
  have hip : i ≠ p := fun e => by subst e; rw [x4] at y4; omega
  have key : ∀ n j, (n, j) ∈ niB b → L (tsp i p j) = true ∧ swF f x y i p n 6 = (tsp i p j : Int) ∧ swF f x y i p (tsp i p j) 9 = (n : Int) ∧ ∀ q, q ≤ 4 → swF f x y i p n q = f n q := by
    intro n j h
    obtain ⟨p1, p2, p3, p4⟩ := hv.pair h
    refine ⟨?_, ?_, ?_, fun q hq => swF_low (by omega) (by omega)⟩
    · by_cases h1 : j = i
      · subst h1; rw [tsp_i]; exact y2
      · by_cases h2 : j = p
        · subst h2; rw [tsp_p]; exact x2
        · rw [tsp_o h1 h2]; exact p2
    · rw [swF_six hxy]
      by_cases h1 : j = i
      · subst h1
        rw [tsp_i, if_pos (by rw [x4] at p4; omega)]
      · by_cases h2 : j = p
        · subst h2
          rw [tsp_p, if_neg (fun e => h1 (by subst e; rw [x3] at p3; omega)), if_pos (by rw [y4] at p4; omega)]
        · rw [tsp_o h1 h2, if_neg (fun e => h1 (by subst e; rw [x3] at p3; omega)), if_neg (fun e => h2 (by subst e; rw [y3] at p3; omega)), p3]
    · rw [swF_nine hip]
      by_cases h1 : j = i
      · subst h1
        rw [tsp_i, if_neg (fun e => hip e.symm), if_pos rfl]
        rw [x4] at p4; omega
      · by_cases h2 : j = p
        · subst h2
          rw [tsp_p, if_pos rfl]
          rw [y4] at p4; omega
        · rw [tsp_o h1 h2, if_neg h1, if_neg h2, p4]
  obtain ⟨a1, a2, a3, a4⟩ := key b.n b.i (by simp [niB])
  refine ⟨hv.ln, a1, ?_, ?_, ?_, ?_, a2, a3, Vw.ren hv.kids fun n j h => key n j (by simp [niB, h])⟩
  · show swF f x y i p b.n 0 = -1
    rw [a4 0 (by omega)]; exact hv.up
  · show swF f x y i p b.n 1 = (ren _ b.k).root
    rw [a4 1 (by omega), ren_root]; exact hv.down
  · show swF f x y i p b.n 2 = -1
    rw [a4 2 (by omega)]; exact hv.left
  · show swF f x y i p b.n 4 = (rkf (ren _ b.k) : Int)
    rw [a4 4 (by omega), ren_rkf]; exact hv.rank
end
theorem tsp_perm {i p : Nat} {l : List Nat} (hn : l.Nodup) (hi : i ∈ l) (hp : p ∈ l) : (l.map (tsp i p)).Perm l := by
  have hm : (l.map (tsp i p)).Nodup := List.Pairwise.map (tsp i p) (fun a b (h : a ≠ b) e => h (by rw [← tsp_tsp i p a, e, tsp_tsp])) hn
  refine (List.perm_ext_iff_of_nodup hm hn).2 fun a => ?_
  constructor
  · intro h
    obtain ⟨c, hc, rfl⟩ := List.mem_map.1 h
    by_cases h1 : c = i
    · subst h1; rw [tsp_i]; exact hp
    · by_cases h2 : c = p
      · subst h2; rw [tsp_p]; exact hi
      · rw [tsp_o h1 h2]; exact hc
  · intro h
    refine List.mem_map.2 ⟨tsp i p a, ?_, tsp_tsp i p a⟩
    by_cases h1 : a = i
    · subst h1; rw [tsp_i]; exact hp
    · by_cases h2 : a = p
      · subst h2; rw [tsp_p]; exact hi
      · rw [tsp_o h1 h2]; exact h
theorem renb_items (g : Nat → Nat) (b : Bn) : (renB g b).items = b.items.map g := by simp [renB, Bn.items, ren_items]
theorem bn_cells (b : Bn) : b.cells.Perm (b.n :: (b.k.nodes ++ b.items)) := by
  simp only [Bn.cells, Bn.items]
  refine .cons _ ?_
  refine (List.Perm.cons b.i (cells_perm b.k)).trans ?_
  exact List.perm_middle.symm
theorem renb_cells {i p : Nat} {b : Bn} (hn : b.items.Nodup) (hi : i ∈ b.items) (hp : p ∈ b.items) : (renB (tsp i p) b).cells.Perm b.cells := by
  refine (bn_cells _).trans (List.Perm.trans ?_ (bn_cells b).symm)
  rw [renb_items]
  show (b.n :: ((ren (tsp i p) b.k).nodes ++ b.items.map (tsp i p))).Perm _
  rw [ren_nodes]
  exact .cons _ (List.Perm.append_left _ (tsp_perm hn hi hp))

/-- each one's next stands so to it -/
def Cq (R : Nat → Nat → Prop) : List Nat → Prop
  | [] => True
  | [_] => True
  | x :: y :: r => R x y ∧ Cq R (y :: r)
theorem Cq.mono {R S : Nat → Nat → Prop} (h : ∀ x y, R x y → S x y) : ∀ {l : List Nat}, Cq R l → Cq S l
  | [], _ => trivial
  | [_], _ => trivial
  | _ :: y :: r, q => ⟨h _ _ q.1, Cq.mono h (l := y :: r) q.2⟩
theorem Cq.snoc {R : Nat → Nat → Prop} {z y : Nat} : ∀ {l : List Nat}, Cq R l → l.getLast? = some z → R z y → Cq R (l ++ [y])
  | [], _, h, _ => by simp at h
  | [x], _, h, q => by simp at h; subst h; exact ⟨q, trivial⟩
  | x :: w :: r, c, h, q => ⟨c.1, Cq.snoc (l := w :: r) c.2 (by simpa using h) q⟩
theorem Cq.at {R : Nat → Nat → Prop} : ∀ {l : List Nat} {k x y : Nat}, Cq R l → l[k]? = some x → l[k + 1]? = some y → R x y
  | [], k, x, y, _, h, _ => by simp at h
  | [z], k, x, y, _, _, h => by simp at h
  | z :: w :: r, 0, x, y, c, h1, h2 => by simp at h1 h2; subst h1 h2; exact c.1
  | z :: w :: r, k + 1, x, y, c, h1, h2 => Cq.at (l := w :: r) (k := k) c.2 (by simpa using h1) (by simpa using h2)

theorem rkf_kid {n i : Nat} {k r : Tr} (h : Kd (nd n i k r)) : (leaf k = true ∨ rkf k + 1 ≤ rkf (nd n i k r)) ∧ rkf r ≤ rkf (nd n i k r) ∧ 1 ≤ rkf (nd n i k r) := by
  refine ⟨?_, ?_, rkf_pos rfl⟩
  · rcases h.1 with e | ⟨_, e, _⟩
    · right; rw [rkf_link e, e]; omega
    · left; exact e
  · rcases h.1 with e | ⟨_, e1, e2, _⟩
    · rw [rkf_link e]; omega
    · rw [rkf_single e1 e2]; omega
theorem path_forest {x i : Nat} : ∀ {t : Tr}, Kd t → (x, i) ∈ ni t → ∃ l z j, l.head? = some x ∧ Cq (fun a b => ∃ c d, Pr a c b d t) l ∧ l.getLast? = some z ∧ (z, j) ∈ ktop t ∧ l.length ≤ rkf t
  | lf, _, h => by simp [ni] at h
  | nd n j k r, hk, h => by
    obtain ⟨b1, b2, b3⟩ := rkf_kid hk
    simp only [ni, List.mem_cons, Prod.mk.injEq, List.mem_append] at h
    rcases h with ⟨rfl, rfl⟩ | h | h
    · exact ⟨[x], x, i, rfl, trivial, rfl, by simp [ktop], by simpa using b3⟩
    · obtain ⟨l, z, q, l1, l2, l3, l4, l5⟩ := path_forest hk.2.1 h
      have hb := b1.resolve_left fun e => by rw [leaf_lf e] at h; simp [ni] at h
      refine ⟨l ++ [n], n, j, ?_, ?_, by simp, by simp [ktop], by rw [List.length_append]; simp; omega⟩
      · cases l with
        | nil => simp at l1
        | cons a r => simpa using l1
      · exact Cq.snoc (Cq.mono (fun a b ⟨c, d, h⟩ => ⟨c, d, Or.inr (Or.inl h)⟩) l2) l3 ⟨q, j, Or.inl ⟨rfl, rfl, l4⟩⟩
    · obtain ⟨l, z, q, l1, l2, l3, l4, l5⟩ := path_forest hk.2.2 h
      exact ⟨l, z, q, l1, Cq.mono (fun a b ⟨c, d, h⟩ => ⟨c, d, Or.inr (Or.inr h)⟩) l2, l3, by simp [ktop, l4], by omega⟩
/-- the way up from a node of a tree -/
theorem path_tree {x i : Nat} {b : Bn} (hk : Kd b.k) (h : (x, i) ∈ niB b) : ∃ l : List Nat, l.head? = some x ∧ Cq (PrN b) l ∧ l.getLast? = some b.n ∧ l.length ≤ b.rk + 1 := by
  simp only [niB, List.mem_cons, Prod.mk.injEq] at h
  rcases h with ⟨rfl, rfl⟩ | h
  · exact ⟨[b.n], rfl, trivial, rfl, by simp⟩
  · obtain ⟨l, z, q, l1, l2, l3, l4, l5⟩ := path_forest hk h
    refine ⟨l ++ [b.n], ?_, ?_, by simp, by rw [List.length_append]; simp only [Bn.rk, List.length_cons, List.length_nil]; omega⟩
    · cases l with
      | nil => simp at l1
      | cons a r => simpa using l1
    · exact Cq.snoc (Cq.mono (fun a c ⟨e, d, h⟩ => ⟨e, d, Or.inr h⟩) l2) l3 ⟨q, b.i, Or.inl ⟨rfl, rfl, l4⟩⟩
theorem way_path {s : St} {b : Bn} (ok : Ok s) (hv : Vb (LS s) (hasS s) b) : ∀ (l : List Nat) (k : Nat), l ≠ [] → Cq (PrN b) l → l.getLast? = some b.n → l.length ≤ k → wayS s k ((l.head?.getD 0 : Nat) : Int) = l.map fun (c : Nat) => (c : Int)
  | [], _, h, _, _, _ => absurd rfl h
  | [x], k, _, _, hl, hk => by
    simp at hl; subst hl
    obtain ⟨k, rfl⟩ : ∃ j, k = j + 1 := ⟨k - 1, by simp at hk; omega⟩
    have e : cellS s (b.n : Int) 0 = -1 := cell_neg (j := 0) hv.ln (by omega) hv.up
    show (if (b.n : Int) = -1 then [] else (b.n : Int) :: wayS s k (cellS s (b.n : Int) 0)) = [(b.n : Int)]
    rw [if_neg (by omega), e]
    cases k <;> simp [wayS]
  | x :: y :: r, k, _, hc, hl, hk => by
    obtain ⟨k, rfl⟩ : ∃ j, k = j + 1 := ⟨k - 1, by simp at hk; omega⟩
    have h0 := hv.above hc.1
    obtain ⟨i, p, hp⟩ := hc.1
    obtain ⟨a1, a2⟩ := prb_ni hp
    have e : cellS s (x : Int) 0 = (y : Int) := cell_nat (j := 0) ok (hv.pair a1).1 (by omega) h0 (hv.pair a2).1
    have ih := way_path ok hv (y :: r) k (by simp) hc.2 (by simpa using hl) (by simpa using hk)
    show (if (x : Int) = -1 then [] else (x : Int) :: wayS s k (cellS s (x : Int) 0)) = _
    rw [if_neg (by omega), e]
    simp only [List.head?_cons, Option.getD_some, List.map_cons] at ih ⊢
    rw [ih]
end Go.Proofs.YteibfnclillnnabGreat
