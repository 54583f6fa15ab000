/- The ring of int64: the walks of Peek and Len. -/
import Derived.Test.YtokjachnbipjjaaPsI
namespace Go.Proofs.Ytokjachnbipjjaa
open Go.ChangeShapes Go.WideShapes Go.ChangeAt Go.RowKit

theorem lenI (pa room : Nat) (l : List Int) (F : Nat → Prop) (w : World) (h : IsI w F pa room l) :
    Calls Try.prog 25 #[.pointer (some ⟨pa, 0, none⟩)] w fun e w' => e = .returned (.int .i64 (l.length : Int)) ∧ w' = w := by
  obtain ⟨uv, pl, first, hr, hL, f1, f2, f4⟩ := h
  obtain ⟨hpa, h0, h1, h2, h3⟩ := hr.cells
  clear hr hL f1 f2 f4 h0 h1 h2
  go_enter Try.func25, Try.ntmps25
  go_wp2
  go_ret
  exact ⟨rfl, rfl⟩

theorem roomI (pa room : Nat) (l : List Int) (F : Nat → Prop) (w : World) (h : IsI w F pa room l) :
    Calls Try.prog 9 #[.pointer (some ⟨pa, 0, none⟩)] w fun e w' => e = .returned (.int .i64 ((room : Int) - (l.length : Int))) ∧ ∃ n, w' = w.drewN n := by
  obtain ⟨hf1, hf2, hf3⟩ := h.fits
  obtain ⟨uv, pl, first, hr, hL, f1, f2, f4⟩ := h
  obtain ⟨hpa, h0, h1, h2, h3⟩ := hr.cells
  clear hr hL f1 f2 f4 h1 h2
  go_enter Try.func9, Try.ntmps9
  go_wp2_with fail
  go_quiet (fail)
  go_wp2
  go_ret
  exact ⟨rfl, _, rfl⟩

set_option maxHeartbeats 1000000 in
theorem peekNoI (pa room : Nat) (l : List Int) (F : Nat → Prop) (i : Int) (w : World) (h : IsI w F pa room l) (hi : i < 0 ∨ (l.length : Int) ≤ i) :
    Calls Try.prog 23 #[.pointer (some ⟨pa, 0, none⟩), .int .i64 i] w fun e w' => e = .returned (.tuple #[(.int .i64 (0 : Int)), .bool false]) ∧ w' = w := by
  obtain ⟨uv, pl, first, hr, hL, f1, f2, f4⟩ := h
  obtain ⟨hpa, h0, h1, h2, h3⟩ := hr.cells
  clear hr hL f1 f2 f4 h0 h1 h2
  by_cases c : i < 0
  · clear hi
    go_enter Try.func23, Try.ntmps23
    go_wp2
    go_ret2
    exact ⟨rfl, rfl⟩
  · have c' : decide (i < 0) = false := by simp; omega
    have hi' : (l.length : Int) ≤ i := by omega
    clear hi c
    go_enter Try.func23, Try.ntmps23
    go_wp2
    go_ret2
    exact ⟨rfl, rfl⟩

set_option maxHeartbeats 1000000 in
theorem peekI (pa room : Nat) (l : List Int) (F : Nat → Prop) (i : Nat) (x : Int) (w : World) (h : IsI w F pa room l) (hx : l[i]? = some x) :
    Calls Try.prog 23 #[.pointer (some ⟨pa, 0, none⟩), .int .i64 i] w fun e w' => e = .returned (.tuple #[(.int .i64 x), .bool true]) ∧ ∃ n, w' = w.drewN n := by
  obtain ⟨hf1, hf2, hf3⟩ := h.fits
  obtain ⟨uv, pl, first, hr, hL, f1, f2, f4⟩ := h
  obtain ⟨hpa, h0, h1, h2, h3⟩ := hr.cells
  have hil : i < l.length := (List.getElem?_eq_some_iff.1 hx).1
  have A := hid (fun w' q0 q2 => atI pa room first i w' q0 q2 hL.pos hL.top hL.first_lt (by omega))
  obtain ⟨t, hT⟩ : ∃ t : Nat, (first + i) % room = t := ⟨_, rfl⟩
  have hh := hL.here i x hx
  rw [hT] at A hh
  obtain ⟨g, cap, rfl, hg, hlt, hgp, hgf, hgc⟩ := hr.place hh
  have hlt' : (t : Int) < (pl.length : Int) := by omega
  have c1 : decide ((i : Int) < 0) = false := by simp
  have c2 : decide ((l.length : Int) ≤ (i : Int)) = false := by simp; omega
  have hll : pl.length ≤ 4096 := by have := hL.len_le; omega
  clear hr hL f1 f2 f4 hT hh hlt hx
  go_enter Try.func23, Try.ntmps23
  go_wp2_with fail
  go_quiet (first
    | (go_at_call 30; refine Calls.quiet_of (A.out _ (by simpa [go_sem] using h0) (by simpa [go_sem] using h2))))
  go_wp2
  go_ret2
  exact ⟨rfl, _, rfl⟩
end Go.Proofs.Ytokjachnbipjjaa
