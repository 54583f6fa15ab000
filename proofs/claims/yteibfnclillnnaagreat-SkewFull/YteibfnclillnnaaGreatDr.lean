/- node.Drop, Drop. -/
import Derived.Test.YteibfnclillnnaaGreatDq
namespace Go.Proofs.YteibfnclillnnaaGreat
open Go.ChangeShapes Go.WideShapes Go.ChangeAt Go.RowKit
open Tr

set_option maxHeartbeats 2000000 in
theorem ndropT {F : Nat → Prop} {w : World} {pa pm base : Nat} {s : St} {v : Value} {D : List Nat} (h : IsA w F pa pm s) (hv : w.ownsRow base 3 1 v D.length (row nat1 D)) (hF : ∀ b, v.ownBlock = some b → ¬ F b) (hc : ∀ n ∈ D, cellS s (n : Int) 6 = (itS s n : Int)) (hz : D.length ≤ 1000) (hs : s.steps ≤ 80000000) :
    Calls Tryz.prog 69 #[.pointer (some ⟨pa, 0, none⟩), v] w fun e w' => ∃ v' m w1, e = .returned v' ∧ m.Perm (D.map (itS s)) ∧ m.Pairwise (fun a b => a ≤ b) ∧ Ex F w w1 pa pm (tk s D.length) ∧ w1.ownsRow w.heap.size 3 1 v' m.length (row nat1 m) ∧ Aft F w1 w' pa pm (dgS (tk s D.length) D) := by
  have I := hid (itemsT h hv hF hc hz (by omega))
  have HV := hid hv
  have HF := hid hF
  have FL := hid h.lt
  obtain ⟨va, vc, rfl⟩ := own_form hv
  clear h hv hF hc
  go_enter Tryz.func69, Tryz.ntmps69
  go_wp2_with fail
  refine I.out.mono ?_
  rintro e w1 ⟨v', m, rfl, o1, hp, hpw, e1⟩
  have O1 := hid o1
  have HP := hid hp
  have HPW := hid hpw
  have E1 := hid e1
  have V1 := hid (own_kept HV.out e1.kept (fun b hb => HF.out b hb))
  have A1 := hid (Aft.start e1.is)
  clear I o1 hp hpw e1 HV
  go_wp2_with fail
  go_loopw [7, 13] (fun _ iv wr => ∃ a : Nat, iv = .int .i64 a ∧ a ≤ D.length ∧ wr.ownsRow base 3 1 (.slice va D.length vc) D.length (row nat1 D) ∧ Aft F w1 wr pa pm (dgS (tk s D.length) (D.take a))) (fun _ i _ => D.length - (intOf i).toNat)
  case atStart => exact ⟨0, rfl, Nat.zero_le _, V1.out, A1.out⟩
  case round =>
    obtain ⟨a, rfl, ha, hv, hA⟩ := hrel
    clear A1
    have HVR := hid hv
    have HA := hid hA
    by_cases hlt : a < D.length
    · have hx : D[a]? = some D[a] := List.getElem?_eq_getElem hlt
      obtain ⟨g, cap, e, hg, _, hcell⟩ := own1_at hv nat1_len hx
      obtain rfl : va = some ⟨g, 0, none⟩ := by injection e
      have ET := hid (show D.take (a + 1) = D.take a ++ [D[a]] by rw [List.take_add_one, hx]; rfl)
      generalize D[a] = x at *
      replace hcell : wr.cell? ⟨g, a, none⟩ = some (.int .i64 (x : Int)) := hcell
      have hlt' : (a : Int) < (D.length : Int) := by omega
      have GB := hid (giveBackT (x : Int) hA (by rw [dg_steps]; show s.steps + D.length + 3 * _ ≤ _; have := List.length_take_le a D; omega))
      clear hx hv hA e
      go_wp2_with fail
      refine GB.out.mono ?_
      rintro e w4 ⟨rfl, h4⟩
      have H4 := hid h4
      clear h4 GB HA HVR
      go_wp2
      go_roundw
      case rel => exact ⟨a + 1, by go_num, by omega, own_kept V1.out H4.out.kept (fun b hb => HF.out b hb), by rw [ET.out, dg_append]; exact H4.out⟩
      case measure => simp [intOf]; omega
    · obtain rfl : a = D.length := by omega
      have hge : decide ((D.length : Int) < (D.length : Int)) = false := by simp
      obtain ⟨xa, xc, rfl⟩ := own_form O1.out
      clear hv hA HVR
      go_wp2
      go_ret
      exact ⟨_, m, w1, rfl, HP.out, HPW.out, E1.out, O1.out, by have := HA.out; rw [List.take_length] at this; exact this⟩

set_option maxHeartbeats 2000000 in
/-- Drop, ahead of the items' giving back -/
theorem dropC {F : Nat → Prop} {w : World} {pa pm : Nat} {s : St} {t u : List Bn} {L M : List (Nat × Int × Int)} (h : Inv s t u L M) (hl : L.length ≤ 1000) (hi : IsA w F pa pm s) (hs : s.steps ≤ 79000000) :
    Calls Tryz.prog 45 #[.pointer (some ⟨pa, 0, none⟩), .int .i64 (headr t)] w fun e w' => ∃ v' m w1 D k, e = .returned v' ∧ D.Perm (nodn t) ∧ m.Perm (its t) ∧ m.Pairwise (fun a b => a ≤ b) ∧ k ≤ 51 + 51 * L.length ∧ Ex F w w1 pa pm (tk s k) ∧ w1.ownsRow w.heap.size 3 1 v' m.length (row nat1 m) ∧ Aft F w1 w' pa pm (dgS (tk s k) D) := by
  have N := hid (nodesN h hl hi (by omega))
  have FL := hid hi.lt
  have HC := hid (bh_cell h.ok fun b hb => (h.a.gd.vb b hb).1)
  have HM := hid (its_map (s := s) (t := t) fun b hb => (h.a.gd.vb b hb).1)
  have hz : (nodn t).length = L.length := by rw [nod_len fun b hb => (h.a.gd.vb b hb).1, h.a.len]
  clear h hi
  generalize headr t = r0 at *
  go_enter Tryz.func45, Tryz.ntmps45
  go_wp2_with fail
  refine N.out.mono ?_
  rintro e w1 ⟨v, D, k, rfl, o1, p1, hk, e1⟩
  have hD : D.length = L.length := by rw [p1.length_eq]; exact hz
  have ND := hid (ndropT e1.is o1 (fun b hb q => by have := FL.out b q; have := (o1.lt b hb).1; omega) (fun m hm => (HC.out m (p1.mem_iff.1 hm) : cellS s (m : Int) 6 = (itS s m : Int))) (by omega) (by show s.steps + k ≤ _; omega))
  have E1 := hid e1
  have P1 := hid p1
  have HK := hid hk
  have HD := hid hD
  obtain ⟨va, vc, rfl⟩ := own_form o1
  clear N o1 p1 e1 hk hD hz
  go_wp2_with fail
  refine ND.out.mono ?_
  rintro e w2 ⟨v', m, w3, rfl, hp, hpw, e3, o3, a3⟩
  have E3 := hid e3
  have O3 := hid o3
  have A3 := hid a3
  have PP := hid (show m.Perm (its t) by rw [HM.out]; exact List.Perm.trans (show m.Perm (D.map (itS s)) from hp) (P1.out.map _))
  have HPW := hid hpw
  obtain ⟨xa, xc, rfl⟩ := own_form o3
  clear hp hpw e3 o3 a3 ND
  go_wp2
  go_ret
  refine ⟨_, m, w3, D, k + D.length, rfl, P1.out, PP.out, HPW.out, by have := HK.out; have := HD.out; omega, ?_, own_base O3.out E1.out.kept.size, ?_⟩
  · rw [← tk_tk]; exact E1.out.stay E3.out.is E3.out.kept
  · rw [← tk_tk]; exact A3.out
end Go.Proofs.YteibfnclillnnaaGreat
