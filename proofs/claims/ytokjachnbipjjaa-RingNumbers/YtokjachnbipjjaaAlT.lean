/- The ring of texts: the walk of All. -/
import Derived.Test.YtokjachnbipjjaaPsT
namespace Go.Proofs.Ytokjachnbipjjaa
open Go.ChangeShapes Go.WideShapes Go.ChangeAt Go.RowKit

theorem makeT (X : World) (n : Nat) (hn : n ≤ 1000000) : ∃ w1, (Instr.makeSlice 32 (.int .i64 0) (.int .i64 (n : Int))).run Try.prog X = .ok (.slice (some ⟨X.heap.size, 0, none⟩) 0 n) w1 ∧ w1.ownsRow X.heap.size 9 1 (.slice (some ⟨X.heap.size, 0, none⟩) 0 n) 0 [] ∧ Below X.heap.size X w1 := by
  obtain ⟨i, hi, h0, h1, h2⟩ := info_parts infoT
  have hr := run_make (P := Try.prog) X 32 9 i _ Try.underlying32 hi h0 .i64 .i64 0 (n : Int) (by omega) (by omega) (by rw [h2]; omega) (by omega)
  refine ⟨_, by simpa using hr, World.ownsRow_made (base := X.heap.size) (e := 9) (size := 1) X _ n (Nat.le_refl _) (by simp only [maxLen]; omega) (by rw [size_madeCells, h1]), (Below.refl _ _).alloc (Nat.le_refl _) _⟩

set_option maxHeartbeats 2000000 in
theorem allT (pa room : Nat) (l : List ByteArray) (F : Nat → Prop) (w : World) (h : IsT w F pa room l) :
    Calls Try.prog 15 #[.pointer (some ⟨pa, 0, none⟩)] w fun e w' => ∃ v, e = .returned v ∧ w'.ownsRow w.heap.size 9 1 v l.length (row oneT l) ∧ Below w.heap.size w w' := by
  obtain ⟨hf1, hf2, hf3⟩ := h.fits
  obtain ⟨uv, pl, first, hr, hL, f1, f2, f4⟩ := h
  obtain ⟨hpa, h0, h1, h2, h3⟩ := hr.cells
  have HR := hid hr
  have LY := hid hL
  obtain ⟨ti, hti, hz0, hz1, hz2⟩ := info_parts infoT
  have HT := hid hti
  have Z0 := hid hz0
  have Z1 := hid hz1
  have Z2 := hid hz2
  obtain ⟨w1, hmk, ho1, hb1⟩ := makeT w l.length (by omega)
  have O1 := hid ho1
  have B1 := hid hb1
  have d3 := (hb1.cell (p := ⟨pa, 3, none⟩) hpa).trans h3
  have hp1 : pa < w1.heap.size := Nat.lt_of_lt_of_le hpa hb1.size
  clear hr hL f1 f2 f4 hti hz0 hz1 hz2 ho1 hb1
  go_enter Try.func15, Try.ntmps15
  go_wp2
  go_loopw [3, 14] (fun ov kv wr => ∃ k : Nat, kv = .int .i64 k ∧ k ≤ l.length ∧ wr.ownsRow w.heap.size 9 1 ov k (row oneT (l.take k)) ∧ Below w.heap.size w wr) (fun _ k _ => l.length - (intOf k).toNat)
  case atStart => exact ⟨0, rfl, Nat.zero_le _, O1.out, B1.out⟩
  case round =>
    clear hmk O1 B1 d3 hp1
    obtain ⟨k, rfl, hk, hO, hB⟩ := hrel
    have HO := hid hO
    have HB := hid hB
    by_cases hlt : k < l.length
    · have hx : l[k]? = some l[k] := List.getElem?_eq_getElem hlt
      have hh := LY.out.here k _ hx
      generalize l[k] = x at hx hh
      have A := hid (fun w' q0 q2 => atT pa room first k w' q0 q2 LY.out.pos LY.out.top LY.out.first_lt (by omega))
      obtain ⟨t, hT⟩ : ∃ t : Nat, (first + k) % room = t := ⟨_, rfl⟩
      rw [hT] at A hh
      obtain ⟨g, cap, rfl, hg, htl, hgp, hgf, hgc⟩ := HR.out.place hh
      have htl' : (t : Int) < (pl.length : Int) := by omega
      have hll : pl.length ≤ 4096 := by have := LY.out.len_le; omega
      have e0 := (hB.cell (p := ⟨pa, 0, none⟩) hpa).trans h0
      have e1 := (hB.cell (p := ⟨pa, 1, none⟩) hpa).trans h1
      have e2 := (hB.cell (p := ⟨pa, 2, none⟩) hpa).trans h2
      have eg := (hB.cell (p := ⟨g, t, none⟩) hg).trans hgc
      have hpr : pa < wr.heap.size := Nat.lt_of_lt_of_le hpa hB.size
      have hgr : g < wr.heap.size := Nat.lt_of_lt_of_le hg hB.size
      have HX := hid hx
      have H0 := hid h0
      have H1 := hid h1
      have H2 := hid h2
      have HG := hid hgc
      have keep4 : ∀ {W' : World}, wr.cell? ⟨pa, 0, none⟩ = some (.int .i64 room) → wr.cell? ⟨pa, 1, none⟩ = some (.slice (some ⟨g, 0, none⟩) pl.length cap) → wr.cell? ⟨pa, 2, none⟩ = some (.int .i64 first) → wr.cell? ⟨g, t, none⟩ = some (.string x) → Kept (fun _ => False) wr W' → W'.cell? ⟨pa, 0, none⟩ = some (.int .i64 room) ∧ W'.cell? ⟨pa, 1, none⟩ = some (.slice (some ⟨g, 0, none⟩) pl.length cap) ∧ W'.cell? ⟨pa, 2, none⟩ = some (.int .i64 first) ∧ W'.cell? ⟨g, t, none⟩ = some (.string x) := fun q0 q1 q2 q3 K => ⟨(K.cell (p := ⟨pa, 0, none⟩) hpr fun e => e).trans q0, (K.cell (p := ⟨pa, 1, none⟩) hpr fun e => e).trans q1, (K.cell (p := ⟨pa, 2, none⟩) hpr fun e => e).trans q2, (K.cell (p := ⟨g, t, none⟩) hgr fun e => e).trans q3⟩
      clear hB hO hx hh h0 h1 h2 h3 hgc hgf htl hT
      go_wp2_with fail
      go_region_held3 (fun w' => w'.cell? ⟨pa, 0, none⟩ = some (.int .i64 room) ∧ w'.cell? ⟨pa, 1, none⟩ = some (.slice (some ⟨g, 0, none⟩) pl.length cap) ∧ w'.cell? ⟨pa, 2, none⟩ = some (.int .i64 first) ∧ w'.cell? ⟨g, t, none⟩ = some (.string x)) (first | exact ⟨d0, d1, d2, dg⟩ | exact keep4 e0 e1 e2 eg (by first | exact (Kept.refl _ _).drew | exact (Kept.refl _ _).drewN _ | exact ((Kept.refl _ _).drewN _).alloc _))
        (first
          | (go_at_call 28; refine (A.out _ (by simpa [go_sem] using e0) (by simpa [go_sem] using e2)).mono ?_; rintro e w1 ⟨rfl, nd, rfl⟩)
          | (refine step_append_lies _ rfl (.tmp 17) (.tmp 27) 32 rfl w.heap.size 9 ti _ 1 16 Try.underlying32 HT.out Z0.out Z1.out Z2.out rfl (by decide) u3 k (row oneT (l.take k)) rfl (by exact own_plain HO.out (((Kept.refl _ _).drewN _).alloc _)) _ 1 1 (oneT x) rfl rfl (by exact World.news_of_block (heap_alloc_new (wr.drewN _) _)) (oneT_one _) (by decide) (by simp [maxLen]; omega) (by omega) (by have := HB.out.size; simp; omega) _ rfl ?_; intro g2 c2 w2 ho hgr2 hat hlt2; have B2 := hid ((below_drewN HB.out _).alloc HB.out.size _ |>.grown hgr2 (by have := HB.out.size; simp; omega) (fun k hk => (HO.out.lt k hk).1)); have d0 := (B2.out.cell (p := ⟨pa, 0, none⟩) hpa).trans H0.out; have d1 := (B2.out.cell (p := ⟨pa, 1, none⟩) hpa).trans H1.out; have d2 := (B2.out.cell (p := ⟨pa, 2, none⟩) hpa).trans H2.out; have dg := (B2.out.cell (p := ⟨g, t, none⟩) hg).trans HG.out; have O2 := hid ho; clear ho hgr2 hat hlt2))
      all_goals
        go_wp2
        go_roundw
        case rel => exact ⟨k + 1, by go_num, by omega, by rw [take_snoc HX.out, row_snoc]; exact O2.out, B2.out⟩
        case measure => simp [intOf]; omega
    · obtain rfl : k = l.length := by omega
      clear hlt hO hB
      go_wp2
      go_ret
      exact ⟨_, rfl, by have := HO.out; rwa [List.take_length] at this, HB.out⟩
end Go.Proofs.Ytokjachnbipjjaa
