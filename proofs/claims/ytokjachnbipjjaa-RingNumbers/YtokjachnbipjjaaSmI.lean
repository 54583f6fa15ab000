/- How two rows of int64 are compared: the walk of Same. -/
import Derived.Test.YtokjachnbipjjaaAlI
namespace Go.Proofs.Ytokjachnbipjjaa
open Go.ChangeShapes Go.WideShapes Go.ChangeAt Go.RowKit

set_option maxHeartbeats 2000000 in
theorem sameI (a b : Value) (l : List Int) (hl : l.length ≤ 1000000) (w : World) (ha : w.ownsRow 0 2 1 a l.length (row oneI l)) (hb : w.ownsRow 0 2 1 b l.length (row oneI l)) :
    Calls Try.prog 26 #[a, b] w fun e w' => e = .returned (.bool true) ∧ ∃ n, w' = w.drewN n := by
  have HA := hid ha
  have HB := hid hb
  obtain ⟨aa, ac, rfl⟩ := own_form ha
  obtain ⟨ba, bc, rfl⟩ := own_form hb
  clear ha hb
  go_enter Try.func26, Try.ntmps26
  go_wp2
  go_loopw [5] (fun iv wr => ∃ (i n : Nat), iv = .int .i64 i ∧ i ≤ l.length ∧ wr = w.drewN n) (fun i _ => l.length - (intOf i).toNat)
  case atStart => exact ⟨0, 0, rfl, Nat.zero_le _, rfl⟩
  case round =>
    obtain ⟨i, n, rfl, hi, rfl⟩ := hrel
    by_cases hlt : i < l.length
    · have hx : l[i]? = some l[i] := List.getElem?_eq_getElem hlt
      obtain ⟨ga, ca, ea, hga, hka⟩ := own1_at HA.out oneI_len hx
      obtain ⟨gb, cb, eb, hgb, hkb⟩ := own1_at HB.out oneI_len hx
      cases ea
      cases eb
      generalize l[i] = x at hx hka hkb
      replace hka : w.cell? ⟨ga, i, none⟩ = some (.int .i64 x) := hka
      replace hkb : w.cell? ⟨gb, i, none⟩ = some (.int .i64 x) := hkb
      have hlt' : (i : Int) < (l.length : Int) := by omega
      clear hx
      go_wp2_with fail
      go_quiet (fail)
      go_wp2
      go_roundw
      case rel => exact ⟨i + 1, n + nq, by go_num, by omega, by simp [go_sem]⟩
      case measure => simp [intOf]; omega
    · obtain rfl : i = l.length := by omega
      go_wp2
      go_ret
      exact ⟨rfl, _, rfl⟩
end Go.Proofs.Ytokjachnbipjjaa
