/- Rings of cells: the walks of neighbour, next, ahead, link, leave, Out, One, Put, Join, Alone. -/
import Derived.Test.YticpldlckdckdaaRn
namespace Go.Proofs.Yticpldlckdckdaa
open Go.ChangeShapes Go.WideShapes Go.ChangeAt Go.RowKit

/-- an arena of a call's own, what its cells have, its steps -/
def Hv (w0 w : World) (F : Nat → Prop) (pa pm n k : Nat) (R L : Nat → Int) (t : Nat) : Prop := ∃ s, HoldA w0 w F pa pm s ∧ Vw s n k R L ∧ s.steps = t

section
variable {w0 w w' : World} {F : Nat → Prop} {pa pm n k t : Nat} {R L : Nat → Int}
theorem Hv.le (h : Hv w0 w F pa pm n k R L t) : k ≤ n ∧ n ≤ 65536 := by
  obtain ⟨s, hs, hv, _⟩ := h
  have h1 := hs.is.ok.fits
  have h2 := hs.is.ok.top
  rw [hv.len, hv.most] at h1
  rw [hv.most] at h2
  exact ⟨h1, h2⟩
theorem Hv.bel (h : Hv w0 w F pa pm n k R L t) : Below w0.heap.size w0 w := by obtain ⟨s, hs, _⟩ := h; exact hs.bel
theorem Hv.lt (h : Hv w0 w F pa pm n k R L t) : ∀ i, F i → i < w.heap.size := by obtain ⟨s, hs, _⟩ := h; exact hs.is.lt
theorem Hv.new (h : Hv w0 w F pa pm n k R L t) : ∀ i, F i → w0.heap.size ≤ i := by obtain ⟨s, hs, _⟩ := h; exact hs.new
theorem Hv.other {G : Nat → Prop} (h : Hv w0 w F pa pm n k R L t) (hk : Kept G w w') (hG : ∀ k, G k → w0.heap.size ≤ k) (hd : ∀ k, F k → ¬ G k) : Hv w0 w' F pa pm n k R L t := by
  obtain ⟨s, hs, hv⟩ := h; exact ⟨s, hs.other hk hG hd, hv⟩
theorem Hv.plain (h : Hv w0 w F pa pm n k R L t) (hk : Kept (fun _ => False) w w') : Hv w0 w' F pa pm n k R L t := by
  obtain ⟨s, hs, hv⟩ := h; exact ⟨s, hs.plain hk, hv⟩
theorem Hv.drewN (h : Hv w0 w F pa pm n k R L t) (m : Nat) : Hv w0 (w.drewN m) F pa pm n k R L t := h.plain ((Kept.refl _ _).drewN m)

set_option maxHeartbeats 1000000 in
theorem nbA_yes {s : St} {c d a b : Int} (h : HoldA w0 w F pa pm s) (hs : s.steps ≤ 900000) (h1 : cellS s c a = d) (h0 : 0 ≤ d) (h9 : d ≤ 65536) (h2 : cellS s d b = c) :
    Calls Try.prog 36 #[.pointer (some ⟨pa, 0, none⟩), .int .i64 c, .int .i64 a, .int .i64 b] w fun e w' => e = .returned (.int .i64 d) ∧ HoldA w0 w' F pa pm (tick (tick s)) ∧ Kept F w w' := by
  have H1 := hid h1
  have H2 := hid h2
  have HH := hid h
  have hne : ¬ d = -1 := by omega
  clear h1 h2 h
  go_enter Try.func36, Try.ntmps36
  go_wp2_with fail
  refine (cellAH c a HH.out (by omega)).mono ?_
  rw [H1.out]
  rintro e w1 ⟨rfl, h1, k1⟩
  have HH1 := hid h1
  have K1 := hid k1
  clear h1 k1 HH
  go_wp2_with fail
  refine (cellAH d b HH1.out (by show s.steps + 1 ≤ _; omega)).mono ?_
  rw [show cellS (tick s) d b = c from H2.out]
  rintro e w2 ⟨rfl, h2, k2⟩
  have HH2 := hid h2
  have K2 := hid (K1.out.trans' k2)
  clear h2 k2 K1 HH1
  go_wp2
  go_ret
  exact ⟨rfl, HH2.out, K2.out⟩
set_option maxHeartbeats 1000000 in
theorem nbA_no {s : St} {c a b : Int} (h : HoldA w0 w F pa pm s) (hs : s.steps ≤ 900000) (h1 : cellS s c a = -1) :
    Calls Try.prog 36 #[.pointer (some ⟨pa, 0, none⟩), .int .i64 c, .int .i64 a, .int .i64 b] w fun e w' => e = .returned (.int .i64 (-1)) ∧ HoldA w0 w' F pa pm (tick s) ∧ Kept F w w' := by
  have H1 := hid h1
  have HH := hid h
  clear h1 h
  go_enter Try.func36, Try.ntmps36
  go_wp2_with fail
  refine (cellAH c a HH.out (by omega)).mono ?_
  rw [H1.out]
  rintro e w1 ⟨rfl, h1, k1⟩
  have HH1 := hid h1
  have K1 := hid k1
  clear h1 k1 HH
  go_wp2
  go_ret
  exact ⟨rfl, HH1.out, K1.out⟩

theorem nextV (h : Hv w0 w F pa pm n k R L t) (ht : t ≤ 900000) {c d : Nat} (hc : c < k) (hd : d < k) (h1 : R c = d) (h2 : L d = c) :
    Calls Try.prog 28 #[.pointer (some ⟨pa, 0, none⟩), .int .i64 c] w fun e w' => e = .returned (.int .i64 d) ∧ Hv w0 w' F pa pm n k R L (t + 2) ∧ Kept F w w' := by
  obtain ⟨hle, hn⟩ := h.le
  obtain ⟨s, hs, hv, rfl⟩ := h
  have C := hid (nbA_yes (a := 3) (b := 2) hs (by omega) (hv.right hc h1 (by omega) (by omega)) (by omega) (by omega) (hv.left hd h2 (by omega) (by omega)))
  have V := hid hv.tick.tick
  clear hs hv h1 h2
  go_enter Try.func28, Try.ntmps28
  go_wp2_with fail
  refine C.out.mono ?_
  rintro e w1 ⟨rfl, h1, k1⟩
  have H1 := hid h1
  have K1 := hid k1
  clear h1 k1
  go_wp2
  go_ret
  exact ⟨rfl, ⟨_, H1.out, V.out, rfl⟩, K1.out⟩
theorem nextV_no (h : Hv w0 w F pa pm n k R L t) (ht : t ≤ 900000) {c : Nat} (hc : c < k) (h1 : R c = -1) :
    Calls Try.prog 28 #[.pointer (some ⟨pa, 0, none⟩), .int .i64 c] w fun e w' => e = .returned (.int .i64 (-1)) ∧ Hv w0 w' F pa pm n k R L (t + 1) ∧ Kept F w w' := by
  obtain ⟨s, hs, hv, rfl⟩ := h
  have C := hid (nbA_no (a := 3) (b := 2) hs (by omega) (hv.right_no hc h1))
  have V := hid hv.tick
  clear hs hv h1
  go_enter Try.func28, Try.ntmps28
  go_wp2_with fail
  refine C.out.mono ?_
  rintro e w1 ⟨rfl, h1, k1⟩
  have H1 := hid h1
  have K1 := hid k1
  clear h1 k1
  go_wp2
  go_ret
  exact ⟨rfl, ⟨_, H1.out, V.out, rfl⟩, K1.out⟩
theorem aheadV (h : Hv w0 w F pa pm n k R L t) (ht : t ≤ 900000) {c d : Nat} (hc : c < k) (hd : d < k) (h1 : L c = d) (h2 : R d = c) :
    Calls Try.prog 31 #[.pointer (some ⟨pa, 0, none⟩), .int .i64 c] w fun e w' => e = .returned (.int .i64 d) ∧ Hv w0 w' F pa pm n k R L (t + 2) ∧ Kept F w w' := by
  obtain ⟨hle, hn⟩ := h.le
  obtain ⟨s, hs, hv, rfl⟩ := h
  have C := hid (nbA_yes (a := 2) (b := 3) hs (by omega) (hv.left hc h1 (by omega) (by omega)) (by omega) (by omega) (hv.right hd h2 (by omega) (by omega)))
  have V := hid hv.tick.tick
  clear hs hv h1 h2
  go_enter Try.func31, Try.ntmps31
  go_wp2_with fail
  refine C.out.mono ?_
  rintro e w1 ⟨rfl, h1, k1⟩
  have H1 := hid h1
  have K1 := hid k1
  clear h1 k1
  go_wp2
  go_ret
  exact ⟨rfl, ⟨_, H1.out, V.out, rfl⟩, K1.out⟩
theorem aheadV_no (h : Hv w0 w F pa pm n k R L t) (ht : t ≤ 900000) {c : Nat} (hc : c < k) (h1 : L c = -1) :
    Calls Try.prog 31 #[.pointer (some ⟨pa, 0, none⟩), .int .i64 c] w fun e w' => e = .returned (.int .i64 (-1)) ∧ Hv w0 w' F pa pm n k R L (t + 1) ∧ Kept F w w' := by
  obtain ⟨s, hs, hv, rfl⟩ := h
  have C := hid (nbA_no (a := 2) (b := 3) hs (by omega) (hv.left_no hc h1))
  have V := hid hv.tick
  clear hs hv h1
  go_enter Try.func31, Try.ntmps31
  go_wp2_with fail
  refine C.out.mono ?_
  rintro e w1 ⟨rfl, h1, k1⟩
  have H1 := hid h1
  have K1 := hid k1
  clear h1 k1
  go_wp2
  go_ret
  exact ⟨rfl, ⟨_, H1.out, V.out, rfl⟩, K1.out⟩

theorem linkV (h : Hv w0 w F pa pm n k R L t) (ht : t ≤ 900000) {c d : Nat} (hc : c < k) (hd : d < k) :
    Calls Try.prog 30 #[.pointer (some ⟨pa, 0, none⟩), .int .i64 c, .int .i64 d] w fun e w' => e = .returned (.tuple #[]) ∧ Hv w0 w' F pa pm n k (upd R c d) (upd L d c) (t + 2) ∧ Kept F w w' := by
  obtain ⟨s, hs, hv, rfl⟩ := h
  have HS := hid hs
  have V1 := hid (hv.set3 hc (d : Int))
  have V2 := hid (V1.out.1.set2 hd (c : Int))
  clear hs hv
  go_enter Try.func30, Try.ntmps30
  go_wp2_with fail
  refine (setAH (c : Int) 3 (d : Int) HS.out (by omega)).mono ?_
  rintro e w1 ⟨rfl, h1, k1⟩
  have H1 := hid h1
  have K1 := hid k1
  clear h1 k1 HS
  go_wp2_with fail
  refine (setAH (d : Int) 2 (c : Int) H1.out (by rw [V1.out.2]; omega)).mono ?_
  rintro e w2 ⟨rfl, h2, k2⟩
  have H2 := hid h2
  have K2 := hid (K1.out.trans' k2)
  clear h2 k2 K1 H1
  go_wp2
  go_end0
  exact ⟨rfl, ⟨_, H2.out, V2.out.1, by rw [V2.out.2, V1.out.2]⟩, K2.out⟩
theorem linkV_no (h : Hv w0 w F pa pm n k R L t) (ht : t ≤ 900000) :
    Calls Try.prog 30 #[.pointer (some ⟨pa, 0, none⟩), .int .i64 (-1), .int .i64 (-1)] w fun e w' => e = .returned (.tuple #[]) ∧ Hv w0 w' F pa pm n k R L (t + 2) ∧ Kept F w w' := by
  obtain ⟨s, hs, hv, rfl⟩ := h
  have HS := hid hs
  have V := hid hv.tick.tick
  clear hs hv
  go_enter Try.func30, Try.ntmps30
  go_wp2_with fail
  refine (setAH (-1) 3 (-1) HS.out (by omega)).mono ?_
  rw [set_none]
  rintro e w1 ⟨rfl, h1, k1⟩
  have H1 := hid h1
  have K1 := hid k1
  clear h1 k1 HS
  go_wp2_with fail
  refine (setAH (-1) 2 (-1) H1.out (by show s.steps + 1 ≤ _; omega)).mono ?_
  rw [set_none]
  rintro e w2 ⟨rfl, h2, k2⟩
  have H2 := hid h2
  have K2 := hid (K1.out.trans' k2)
  clear h2 k2 K1 H1
  go_wp2
  go_end0
  exact ⟨rfl, ⟨_, H2.out, V.out, rfl⟩, K2.out⟩

theorem leaveV (h : Hv w0 w F pa pm n k R L t) (ht : t ≤ 800000) {c p r : Nat} (hc : c < k) (hp : p < k) (hr : r < k) (h1 : R c = r) (h2 : L r = c) (h3 : L c = p) (h4 : R p = c) :
    Calls Try.prog 29 #[.pointer (some ⟨pa, 0, none⟩), .int .i64 c] w fun e w' => e = .returned (.int .i64 r) ∧ Hv w0 w' F pa pm n k (upd R p r) (upd L r p) (t + 6) ∧ Kept F w w' := by
  have HS := hid h
  have C1 := hid h1
  have C2 := hid h2
  have C3 := hid h3
  have C4 := hid h4
  clear h h1 h2 h3 h4
  go_enter Try.func29, Try.ntmps29
  go_wp2_with fail
  refine (aheadV HS.out (by omega) hc hp C3.out C4.out).mono ?_
  rintro e w1 ⟨rfl, h1, k1⟩
  have H1 := hid h1
  have K1 := hid k1
  clear h1 k1 HS
  go_wp2_with fail
  refine (nextV H1.out (by omega) hc hr C1.out C2.out).mono ?_
  rintro e w2 ⟨rfl, h2, k2⟩
  have H2 := hid h2
  have K2 := hid (K1.out.trans' k2)
  clear h2 k2 H1 K1
  go_wp2_with fail
  refine (linkV H2.out (by omega) hp hr).mono ?_
  rintro e w3 ⟨rfl, h3, k3⟩
  have H3 := hid h3
  have K3 := hid (K2.out.trans' k3)
  clear h3 k3 H2 K2
  go_wp2
  go_ret
  exact ⟨rfl, H3.out, K3.out⟩
theorem leaveV_no (h : Hv w0 w F pa pm n k R L t) (ht : t ≤ 800000) {c : Nat} (hc : c < k) (h1 : R c = -1) (h3 : L c = -1) :
    Calls Try.prog 29 #[.pointer (some ⟨pa, 0, none⟩), .int .i64 c] w fun e w' => e = .returned (.int .i64 (-1)) ∧ Hv w0 w' F pa pm n k R L (t + 4) ∧ Kept F w w' := by
  have HS := hid h
  have C1 := hid h1
  have C3 := hid h3
  clear h h1 h3
  go_enter Try.func29, Try.ntmps29
  go_wp2_with fail
  refine (aheadV_no HS.out (by omega) hc C3.out).mono ?_
  rintro e w1 ⟨rfl, h1, k1⟩
  have H1 := hid h1
  have K1 := hid k1
  clear h1 k1 HS
  go_wp2_with fail
  refine (nextV_no H1.out (by omega) hc C1.out).mono ?_
  rintro e w2 ⟨rfl, h2, k2⟩
  have H2 := hid h2
  have K2 := hid (K1.out.trans' k2)
  clear h2 k2 H1 K1
  go_wp2_with fail
  refine (linkV_no H2.out (by omega)).mono ?_
  rintro e w3 ⟨rfl, h3, k3⟩
  have H3 := hid h3
  have K3 := hid (K2.out.trans' k3)
  clear h3 k3 H2 K2
  go_wp2
  go_ret
  exact ⟨rfl, H3.out, K3.out⟩
end

/-- all k cells of an arena are in rings -/
def Hr (w0 w : World) (F : Nat → Prop) (pa pm n k : Nat) (nx pv : Nat → Nat) (t : Nat) : Prop := Hv w0 w F pa pm n k (fun c => (nx c : Int)) (fun c => (pv c : Int)) t ∧ Inv k nx pv

section
variable {w0 w w' : World} {F : Nat → Prop} {pa pm n k t : Nat} {nx pv : Nat → Nat}
theorem Hv.eq {R L R' L' : Nat → Int} (h : Hv w0 w F pa pm n k R L t) (h1 : ∀ x, R x = R' x) (h2 : ∀ x, L x = L' x) : Hv w0 w F pa pm n k R' L' t := by
  obtain rfl : R = R' := funext h1
  obtain rfl : L = L' := funext h2
  exact h

set_option maxHeartbeats 1000000 in
theorem outC (h : Hr w0 w F pa pm n k nx pv t) (ht : t ≤ 700000) {c : Nat} (hc : c < k) :
    Calls Try.prog 14 #[.pointer (some ⟨pa, 0, none⟩), .int .i64 c] w fun e w' => e = .returned (.int .i64 (if nx c = c then -1 else (nx c : Int))) ∧ Hr w0 w' F pa pm n k (swN nx pv c c) (swP nx pv c c) (t + 8) ∧ Kept F w w' := by
  obtain ⟨hV, hI⟩ := h
  have C := hid (leaveV hV (by omega) hc (hI.plt c hc) (hI.nlt c hc) rfl (by simp [hI.pn c hc]) rfl (by simp [hI.np c hc]))
  have I := hid hI
  have PN := hid (hI.pn c hc)
  have hn := hV.le
  have hx := hI.nlt c hc
  clear hV hI
  by_cases q : nx c = c
  · have Q := hid q
    rw [q] at C PN
    have P := hid PN.out
    rw [P.out] at C
    rw [if_pos q]
    clear PN q
    go_enter Try.func14, Try.ntmps14
    go_wp2_with fail
    refine C.out.mono ?_
    rintro e w1 ⟨rfl, h1, k1⟩
    have H1 := hid h1
    have K1 := hid k1
    clear h1 k1
    go_wp2_with fail
    refine (linkV H1.out (by omega) hc hc).mono ?_
    rintro e w2 ⟨rfl, h2, k2⟩
    have H2 := hid h2
    have K2 := hid (K1.out.trans' k2)
    clear h2 k2 H1 K1
    go_wp2
    go_ret
    refine ⟨rfl, ⟨H2.out.eq ?_ ?_, I.out.sw hc hc⟩, K2.out⟩
    · intro x; by_cases e : x = c <;> simp [upd, swN, e, Q.out, P.out]
    · intro x; by_cases e : x = c <;> simp [upd, swP, e, Q.out, P.out]
  · have Q := hid q
    have P := hid (show ¬ pv c = c from fun e => q (by have := I.out.np c hc; rwa [e] at this))
    rw [if_neg q]
    obtain ⟨r, hr⟩ : ∃ r, nx c = r := ⟨_, rfl⟩
    obtain ⟨p, hp⟩ : ∃ p, pv c = p := ⟨_, rfl⟩
    have HR := hid hr
    have HP := hid hp
    rw [hr] at C Q q hx ⊢
    rw [hp] at C P
    clear PN hr hp
    have hne : ¬ (r : Int) = (c : Int) := by omega
    go_enter Try.func14, Try.ntmps14
    go_wp2_with fail
    refine C.out.mono ?_
    rintro e w1 ⟨rfl, h1, k1⟩
    have H1 := hid h1
    have K1 := hid k1
    clear h1 k1
    go_wp2_with fail
    refine (linkV H1.out (by omega) hc hc).mono ?_
    rintro e w2 ⟨rfl, h2, k2⟩
    have H2 := hid h2
    have K2 := hid (K1.out.trans' k2)
    clear h2 k2 H1 K1
    go_wp2
    go_ret
    refine ⟨rfl, ⟨H2.out.eq ?_ ?_, I.out.sw hc hc⟩, K2.out⟩
    · intro x
      by_cases e : x = c
      · subst e; simp [upd, swN, HP.out, show ¬ x = p from fun e => P.out e.symm]
      · by_cases e' : x = p
        · subst e'; simp [upd, swN, HP.out, HR.out, e]
        · simp [upd, swN, HP.out, e, e']
    · intro x
      by_cases e : x = c
      · subst e; simp [upd, swP, HR.out, show ¬ x = r from fun e => Q.out e.symm]
      · by_cases e' : x = r
        · subst e'; simp [upd, swP, HP.out, HR.out, e]
        · simp [upd, swP, HR.out, e, e']

/-- a cell that was just taken becomes a ring of its own -/
def nxt (nx : Nat → Nat) (k : Nat) : Nat → Nat := fun x => if x = k then k else nx x
theorem Inv.more (h : Inv k nx pv) : Inv (k + 1) (nxt nx k) (nxt pv k) := by
  refine ⟨fun c hc => ?_, fun c hc => ?_, fun c hc => ?_, fun c hc => ?_⟩
  · by_cases e : c = k
    · simp [nxt, e]
    · have := h.nlt c (by omega); simp [nxt, e]; omega
  · by_cases e : c = k
    · simp [nxt, e]
    · have := h.plt c (by omega); simp [nxt, e]; omega
  · by_cases e : c = k
    · simp [nxt, e]
    · have := h.nlt c (by omega); simp [nxt, e, show ¬ nx c = k by omega, h.pn c (by omega)]
  · by_cases e : c = k
    · simp [nxt, e]
    · have := h.plt c (by omega); simp [nxt, e, show ¬ pv c = k by omega, h.np c (by omega)]

theorem takeC (h : Hr w0 w F pa pm n k nx pv t) (ht : t ≤ 700000) (hk : k < n) :
    Calls Try.prog 11 #[.pointer (some ⟨pa, 0, none⟩)] w fun e w' => e = .returned (.tuple #[.int .i64 k, .bool true]) ∧ Hv w0 w' (Grow F w w') pa pm n (k + 1) (upd (fun c => (nx c : Int)) k (-1)) (upd (fun c => (pv c : Int)) k (-1)) (t + 1) ∧ Kept F w w' := by
  obtain ⟨⟨s, hs, hv, rfl⟩, hI⟩ := h
  obtain ⟨e1, e2, e3⟩ := hv.take hk
  refine (takeAH hs (by omega)).mono ?_
  rintro e w1 ⟨rfl, h1, k1⟩
  rw [e1]
  exact ⟨by simp, ⟨_, h1, e2, e3⟩, k1⟩

set_option maxHeartbeats 1000000 in
theorem oneV (hI : Inv k nx pv) (h : Hv w0 w F pa pm n (k + 1) (upd (fun c => (nx c : Int)) k (-1)) (upd (fun c => (pv c : Int)) k (-1)) t) (ht : t ≤ 700000) :
    Calls Try.prog 12 #[.pointer (some ⟨pa, 0, none⟩), .int .i64 k] w fun e w' => e = .returned (.tuple #[]) ∧ Hr w0 w' F pa pm n (k + 1) (nxt nx k) (nxt pv k) (t + 6) ∧ Kept F w w' := by
  have C := hid (leaveV_no h (by omega) (c := k) (by omega) (by simp [upd]) (by simp [upd]))
  have I := hid hI.more
  have hn := h.le
  clear h hI
  have O : Calls Try.prog 14 #[.pointer (some ⟨pa, 0, none⟩), .int .i64 k] w fun e w' => e = .returned (.int .i64 (-1)) ∧ Hr w0 w' F pa pm n (k + 1) (nxt nx k) (nxt pv k) (t + 6) ∧ Kept F w w' := by
    have hne : ¬ (-1 : Int) = (k : Int) := by omega
    go_enter Try.func14, Try.ntmps14
    go_wp2_with fail
    refine C.out.mono ?_
    rintro e w1 ⟨rfl, h1, k1⟩
    have H1 := hid h1
    have K1 := hid k1
    clear h1 k1
    go_wp2_with fail
    refine (linkV H1.out (c := k) (d := k) (by omega) (by omega) (by omega)).mono ?_
    rintro e w2 ⟨rfl, h2, k2⟩
    have H2 := hid h2
    have K2 := hid (K1.out.trans' k2)
    clear h2 k2 H1 K1
    go_wp2
    go_ret
    refine ⟨rfl, ⟨H2.out.eq ?_ ?_, I.out⟩, K2.out⟩
    · intro x; by_cases e : x = k <;> simp [upd, nxt, e]
    · intro x; by_cases e : x = k <;> simp [upd, nxt, e]
  have O' := hid O
  clear O C I
  go_enter Try.func12, Try.ntmps12
  go_wp2_with fail
  refine O'.out.mono ?_
  rintro e w1 ⟨rfl, h1, k1⟩
  have H1 := hid h1
  have K1 := hid k1
  clear h1 k1
  go_wp2
  go_end0
  exact ⟨rfl, H1.out, K1.out⟩
theorem oneC (h : Hr w0 w F pa pm n k nx pv t) (ht : t ≤ 700000) {c : Nat} (hc : c < k) :
    Calls Try.prog 12 #[.pointer (some ⟨pa, 0, none⟩), .int .i64 c] w fun e w' => e = .returned (.tuple #[]) ∧ Hr w0 w' F pa pm n k (swN nx pv c c) (swP nx pv c c) (t + 8) ∧ Kept F w w' := by
  have O' := hid (outC h ht hc)
  clear h
  generalize (if nx c = c then -1 else (nx c : Int)) = v at O'
  go_enter Try.func12, Try.ntmps12
  go_wp2_with fail
  refine O'.out.mono ?_
  rintro e w1 ⟨rfl, h1, k1⟩
  have H1 := hid h1
  have K1 := hid k1
  clear h1 k1
  go_wp2
  go_end0
  exact ⟨rfl, H1.out, K1.out⟩

set_option maxHeartbeats 1000000 in
theorem putC (h : Hr w0 w F pa pm n k nx pv t) (ht : t ≤ 700000) {c d : Nat} (hc : c < k) (hd : d < k) (hne : c ≠ d) (ha : nx d = d) :
    Calls Try.prog 13 #[.pointer (some ⟨pa, 0, none⟩), .int .i64 c, .int .i64 d] w fun e w' => e = .returned (.tuple #[]) ∧ Hr w0 w' F pa pm n k (swN nx pv c d) (swP nx pv c d) (t + 12) ∧ Kept F w w' := by
  obtain ⟨hV, hI⟩ := h
  have I := hid hI
  have hn := hV.le
  have hpd : pv d = d := by have := hI.pn d hd; rwa [ha] at this
  have hrd : nx c ≠ d := fun e => hne (hI.inj hc hd (by rw [e, ha]))
  have hrk := hI.nlt c hc
  have LV := hid (show Calls Try.prog 27 #[.pointer (some ⟨pa, 0, none⟩), .int .i64 d] w fun e w' => e = .returned (.bool true) ∧ w' = w by
    obtain ⟨s, hs, hv, _⟩ := hV
    have := liveA pa pm s F d w hs.is
    rwa [hv.live hd] at this)
  obtain ⟨r, hr⟩ : ∃ r, nx c = r := ⟨_, rfl⟩
  have N := hid (nextV hV (by omega) hc (hI.nlt c hc) rfl (by simp [hI.pn c hc]))
  have HR := hid hr
  have HP := hid hpd
  have HA := hid ha
  have PN := hid (hI.pn c hc)
  rw [hr] at N hrd hrk PN
  have e1 : ¬ (c : Int) = (d : Int) := by omega
  have e2 : ((r : Int) == (d : Int)) = false := by simp; omega
  have e3 : ((r : Int) == -1) = false := by simp
  have RD := hid hrd
  have NE := hid hne
  clear hV hI hr hpd ha hrd hne
  go_enter Try.func13, Try.ntmps13
  go_wp2_with fail
  refine LV.out.mono ?_
  rintro e w1 ⟨rfl, rfl⟩
  go_wp2_with fail
  refine N.out.mono ?_
  rintro e w2 ⟨rfl, h2, k2⟩
  have H2 := hid h2
  have K2 := hid k2
  clear h2 k2
  go_wp2_with fail
  refine (leaveV H2.out (by omega) (c := d) (p := d) (r := d) hd hd hd (by simp [HA.out]) (by simp [HP.out]) (by simp [HP.out]) (by simp [HA.out])).mono ?_
  rintro e w3 ⟨rfl, h3, k3⟩
  have H3 := hid h3
  have K3 := hid (K2.out.trans' k3)
  clear h3 k3 H2 K2
  go_wp2_with fail
  refine (linkV H3.out (by omega) hc hd).mono ?_
  rintro e w4 ⟨rfl, h4, k4⟩
  have H4 := hid h4
  have K4 := hid (K3.out.trans' k4)
  clear h4 k4 H3 K3
  go_wp2_with fail
  refine (linkV H4.out (by omega) hd hrk).mono ?_
  rintro e w5 ⟨rfl, h5, k5⟩
  have H5 := hid h5
  have K5 := hid (K4.out.trans' k5)
  clear h5 k5 H4 K4
  go_wp2
  go_end0
  refine ⟨rfl, ⟨H5.out.eq ?_ ?_, I.out.sw hc hd⟩, K5.out⟩
  · intro x
    by_cases e : x = d
    · simp [upd, swN, HP.out, HR.out, e]
    · by_cases e' : x = c
      · subst e'; simp [upd, swN, HP.out, e]
      · simp [upd, swN, HP.out, e, e']
  · intro x
    by_cases e : x = r
    · simp [upd, swP, HP.out, HR.out, e]
    · by_cases e' : x = d
      · subst e'; simp [upd, swP, HR.out, e]
      · simp [upd, swP, HR.out, e, e']

set_option maxHeartbeats 1000000 in
theorem joinC (h : Hr w0 w F pa pm n k nx pv t) (ht : t ≤ 700000) {c d : Nat} (hc : c < k) (hd : d < k) :
    Calls Try.prog 18 #[.pointer (some ⟨pa, 0, none⟩), .int .i64 c, .int .i64 d] w fun e w' => e = .returned (.tuple #[]) ∧ Hr w0 w' F pa pm n k (swN nx pv c d) (swP nx pv c d) (t + 8) ∧ Kept F w w' := by
  obtain ⟨hV, hI⟩ := h
  have I := hid hI
  have hn := hV.le
  have hrk := hI.nlt c hc
  have hpk := hI.plt d hd
  have C1 := hid (hI.pn c hc)
  have C2 := hid (hI.np d hd)
  have N := hid (nextV hV (by omega) hc hrk rfl (by simp [hI.pn c hc]))
  obtain ⟨r, hr⟩ : ∃ r, nx c = r := ⟨_, rfl⟩
  obtain ⟨p, hp⟩ : ∃ p, pv d = p := ⟨_, rfl⟩
  have HR := hid hr
  have HP := hid hp
  rw [hr] at N hrk
  rw [hp] at hpk
  have e3 : ((r : Int) == -1) = false := by simp
  have e4 : ((p : Int) == -1) = false := by simp
  clear hV hI hr hp
  go_enter Try.func18, Try.ntmps18
  go_wp2_with fail
  refine N.out.mono ?_
  rintro e w2 ⟨rfl, h2, k2⟩
  have H2 := hid h2
  have K2 := hid k2
  clear h2 k2
  go_wp2_with fail
  refine (aheadV H2.out (by omega) (c := d) (d := p) hd hpk (by simp [HP.out]) (by rw [← HP.out, C2.out])).mono ?_
  rintro e w3 ⟨rfl, h3, k3⟩
  have H3 := hid h3
  have K3 := hid (K2.out.trans' k3)
  clear h3 k3 H2 K2
  go_wp2_with fail
  refine (linkV H3.out (by omega) hc hd).mono ?_
  rintro e w4 ⟨rfl, h4, k4⟩
  have H4 := hid h4
  have K4 := hid (K3.out.trans' k4)
  clear h4 k4 H3 K3
  go_wp2_with fail
  refine (linkV H4.out (by omega) hpk hrk).mono ?_
  rintro e w5 ⟨rfl, h5, k5⟩
  have H5 := hid h5
  have K5 := hid (K4.out.trans' k5)
  clear h5 k5 H4 K4
  go_wp2
  go_end0
  refine ⟨rfl, ⟨H5.out.eq ?_ ?_, I.out.sw hc hd⟩, K5.out⟩
  · intro x
    by_cases e : x = p
    · simp [upd, swN, HP.out, HR.out, e]
    · by_cases e' : x = c
      · subst e'; simp [upd, swN, HP.out, e]
      · simp [upd, swN, HP.out, e, e']
  · intro x
    by_cases e : x = r
    · simp [upd, swP, HP.out, HR.out, e]
    · by_cases e' : x = d
      · subst e'; simp [upd, swP, HR.out, e]
      · simp [upd, swP, HR.out, e, e']

set_option maxHeartbeats 1000000 in
theorem aloneC (h : Hr w0 w F pa pm n k nx pv t) (ht : t ≤ 900000) {c : Nat} (hc : c < k) :
    Calls Try.prog 15 #[.pointer (some ⟨pa, 0, none⟩), .int .i64 c] w fun e w' => e = .returned (.bool (decide (nx c = c))) ∧ Hr w0 w' F pa pm n k nx pv (t + 1) ∧ Kept F w w' := by
  obtain ⟨hV, hI⟩ := h
  have I := hid hI
  have hn := hV.le
  have hrk := hI.nlt c hc
  obtain ⟨s, hs, hv, rfl⟩ := hV
  have LV := hid (show Calls Try.prog 27 #[.pointer (some ⟨pa, 0, none⟩), .int .i64 c] w fun e w' => e = .returned (.bool true) ∧ w' = w by
    have := liveA pa pm s F c w hs.is
    rwa [hv.live hc] at this)
  have CE := hid (hv.right hc (d := (nx c : Int)) rfl (by omega) (by omega))
  have HS := hid hs
  have V := hid hv.tick
  obtain ⟨r, hr⟩ : ∃ r, nx c = r := ⟨_, rfl⟩
  rw [hr] at CE hrk ⊢
  clear hs hv hI hr
  by_cases q : r = c
  · subst q
    go_enter Try.func15, Try.ntmps15
    go_wp2_with fail
    refine LV.out.mono ?_
    rintro e w1 ⟨rfl, rfl⟩
    go_wp2_with fail
    refine (cellAH (r : Int) 3 HS.out (by omega)).mono ?_
    rw [CE.out]
    rintro e w2 ⟨rfl, h2, k2⟩
    have H2 := hid h2
    have K2 := hid k2
    clear h2 k2
    go_wp2
    go_ret
    exact ⟨ret_bool (by simp), ⟨⟨_, H2.out, V.out, rfl⟩, I.out⟩, K2.out⟩
  · have hne : ¬ (r : Int) = (c : Int) := by omega
    have Q := hid q
    clear q
    go_enter Try.func15, Try.ntmps15
    go_wp2_with fail
    refine LV.out.mono ?_
    rintro e w1 ⟨rfl, rfl⟩
    go_wp2_with fail
    refine (cellAH (c : Int) 3 HS.out (by omega)).mono ?_
    rw [CE.out]
    rintro e w2 ⟨rfl, h2, k2⟩
    have H2 := hid h2
    have K2 := hid k2
    clear h2 k2
    go_wp2
    go_ret
    exact ⟨ret_bool (by simp [Q.out]; exact hne), ⟨⟨_, H2.out, V.out, rfl⟩, I.out⟩, K2.out⟩
end
end Go.Proofs.Yticpldlckdckdaa
