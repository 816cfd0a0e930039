/- The table of rates, as it is laid. -/
import Derived.Test.YtfpmmfoinjcclaaDoorLawKit
import Derived.Test.YtfpmmfoinjcclaaDoorTcFns
namespace Go.Proofs.YtfpmmfoinjcclaaDoor
open Go.ChangeShapes Go.WideShapes Go.ChangeAt Go.WideMaps Go.WideElems Go.RowKit

theorem own : ownKnob Tryd.prog.godebug = none := by kernel_rfl
theorem laidOut : laidOutB Tryd.prog = true := by kernel_rfl
theorem gFmt : Tryd.prog.globalNamed "onair/timecode.formats" = some 0 := by kernel_rfl
theorem tFmt : (Tryd.prog.globals[0]?).map (·.type) = some 66 := by kernel_rfl

section
variable {H : Type} {enc : TypeId × Value → H} {w : World} {base : Nat} {spare : Nat → Bool} {held : Bool}
theorem laid_int {fuel : Nat} {cs : List Value} {n : Int} {q : List MemPlace} (h : DataW.trod enc Tryd.prog w base spare held fuel 3 cs = some (.lit (.int .i64 n), q)) : cs = [iv n] := by
  obtain ⟨z, e1, e2, _⟩ := DataW.trod_int Tryd.underlying3 h
  have e3 := congrArg Prod.fst e2
  simp at e3
  rw [e1, e3]
theorem laid_rate {fuel : Nat} {cs : List Value} {a b : Int} {q : List MemPlace} (h : DataW.trod enc Tryd.prog w base spare held fuel 23 cs = some (.agg [.lit (.int .i64 a), .lit (.int .i64 b)], q)) : cs = [iv a, iv b] := by
  obtain ⟨y0, y1, n, hx, hl, h0, h1⟩ := trod_struct2 Tryd.underlying23 h
  simp only [Prod.mk.injEq, DataW.agg.injEq, List.cons.injEq, and_true] at hx
  obtain ⟨⟨e0, e1⟩, -⟩ := hx
  obtain ⟨y0, p0⟩ := y0
  obtain ⟨y1, p1⟩ := y1
  subst e0 e1
  have g0 := laid_int h0
  have g1 := laid_int h1
  have hl2 : cs.length = 2 := hl.trans (by kernel_rfl)
  match cs, hl2 with
  | [c0, c1], _ => 
    have e0 : [c0] = [iv a] := g0
    have e1 : [c1] = [iv b] := g1
    simp only [List.cons.injEq, and_true] at e0 e1
    rw [e0, e1]
theorem laid_row {fuel : Nat} {cs : List Value} {a b c d : Int} {q : List MemPlace} (h : DataW.trod enc Tryd.prog w base spare held fuel 54 cs = some (.agg [.agg [.lit (.int .i64 a), .lit (.int .i64 b)], .lit (.int .i64 c), .lit (.int .i64 d)], q)) : cs = [iv a, iv b, iv c, iv d] := by
  obtain ⟨xs, n, _, hx, hl, hlen, hf⟩ := DataW.trod_struct Tryd.underlying54 h
  match xs, hlen with
  | [y0, y1, y2], _ =>
    simp only [Prod.mk.injEq, DataW.agg.injEq, List.map_cons, List.map_nil, List.cons.injEq, and_true] at hx
    obtain ⟨⟨e0, e1, e2⟩, -⟩ := hx
    obtain ⟨y0, p0⟩ := y0
    obtain ⟨y1, p1⟩ := y1
    obtain ⟨y2, p2⟩ := y2
    subst e0 e1 e2
    have g0 := laid_rate (hf 0 _ rfl)
    have g1 := laid_int (hf 1 _ rfl)
    have g2 := laid_int (hf 2 _ rfl)
    have hl2 : cs.length = 4 := hl.trans (by kernel_rfl)
    match cs, hl2 with
    | [c0, c1, c2, c3], _ =>
      have e0 : [c0, c1] = [iv a, iv b] := g0
      have e1 : [c2] = [iv c] := g1
      have e2 : [c3] = [iv d] := g2
      simp only [List.cons.injEq, and_true] at e0 e1 e2
      rw [e0.1, e0.2, e1, e2]

theorem fmtV_row {i r : Nat} (hi : i < 8) (hr : r < 4) : fmtV[i * 4 + r]? = (fmtRow (rtAt i))[r]? := by
  match i, hi, r, hr with
  | 0, _, 0, _ => rfl
  | 0, _, 1, _ => rfl
  | 0, _, 2, _ => rfl
  | 0, _, 3, _ => rfl
  | 1, _, 0, _ => rfl
  | 1, _, 1, _ => rfl
  | 1, _, 2, _ => rfl
  | 1, _, 3, _ => rfl
  | 2, _, 0, _ => rfl
  | 2, _, 1, _ => rfl
  | 2, _, 2, _ => rfl
  | 2, _, 3, _ => rfl
  | 3, _, 0, _ => rfl
  | 3, _, 1, _ => rfl
  | 3, _, 2, _ => rfl
  | 3, _, 3, _ => rfl
  | 4, _, 0, _ => rfl
  | 4, _, 1, _ => rfl
  | 4, _, 2, _ => rfl
  | 4, _, 3, _ => rfl
  | 5, _, 0, _ => rfl
  | 5, _, 1, _ => rfl
  | 5, _, 2, _ => rfl
  | 5, _, 3, _ => rfl
  | 6, _, 0, _ => rfl
  | 6, _, 1, _ => rfl
  | 6, _, 2, _ => rfl
  | 6, _, 3, _ => rfl
  | 7, _, 0, _ => rfl
  | 7, _, 1, _ => rfl
  | 7, _, 2, _ => rfl
  | 7, _, 3, _ => rfl

theorem laid_fmt {fuel : Nat} {cs : List Value} {q : List MemPlace} (h : DataW.trod enc Tryd.prog w base spare held fuel 66 cs = some (Rows.laid_onair_timecode_formats, q)) : cs = fmtV := by
  obtain ⟨xs, m, _, hx, hl, hn, hel⟩ := DataW.trod_array Tryd.underlying66 h
  have hc : Tryd.prog.cellsOf 54 = 4 := by kernel_rfl
  have hl2 : cs.length = 32 := hl.trans (by kernel_rfl)
  rw [hc] at hel
  match xs, hn with
  | [x0, x1, x2, x3, x4, x5, x6, x7], _ =>
    unfold Rows.laid_onair_timecode_formats at hx
    simp only [Prod.mk.injEq, DataW.agg.injEq, List.map_cons, List.map_nil, List.cons.injEq, and_true] at hx
    obtain ⟨⟨e0, e1, e2, e3, e4, e5, e6, e7⟩, -⟩ := hx
    obtain ⟨x0, p0⟩ := x0
    obtain ⟨x1, p1⟩ := x1
    obtain ⟨x2, p2⟩ := x2
    obtain ⟨x3, p3⟩ := x3
    obtain ⟨x4, p4⟩ := x4
    obtain ⟨x5, p5⟩ := x5
    obtain ⟨x6, p6⟩ := x6
    obtain ⟨x7, p7⟩ := x7
    subst e0 e1 e2 e3 e4 e5 e6 e7
    have hrow : ∀ i, i < 8 → (cs.drop (i * 4)).take 4 = fmtRow (rtAt i) := by
      intro i hi
      match i, hi with
      | 0, _ => exact laid_row (hel 0 (by decide))
      | 1, _ => exact laid_row (hel 1 (by decide))
      | 2, _ => exact laid_row (hel 2 (by decide))
      | 3, _ => exact laid_row (hel 3 (by decide))
      | 4, _ => exact laid_row (hel 4 (by decide))
      | 5, _ => exact laid_row (hel 5 (by decide))
      | 6, _ => exact laid_row (hel 6 (by decide))
      | 7, _ => exact laid_row (hel 7 (by decide))
    refine List.ext_getElem? fun n => ?_
    by_cases h32 : n < 32
    · have h1 := congrArg (fun l => l[n % 4]?) (hrow (n / 4) (by omega))
      simp only [List.getElem?_take, List.getElem?_drop] at h1
      rw [if_pos (by omega), show n / 4 * 4 + n % 4 = n by omega, ← fmtV_row (by omega) (by omega), show n / 4 * 4 + n % 4 = n by omega] at h1
      exact h1
    · rw [List.getElem?_eq_none (by omega), List.getElem?_eq_none (by show 32 ≤ n; omega)]
end

def laidFmt : List (String × DataW Unit) := [("onair/timecode.formats", Rows.laid_onair_timecode_formats)]

theorem fmt_of_laid {W : World} (h : laidMetH Tryd.prog laidFmt W) : FmtAt W := by
  rw [MakeChecks.laidMetH_plain _ _ _ (by kernel_rfl)] at h
  obtain ⟨ps, ⟨g0, t0, cs0, f0, p0, q0, hg0, ht0, hv0, hd0, _, _⟩, _, _⟩ := h
  obtain rfl := Option.some.inj (gFmt.symm.trans hg0)
  obtain rfl := Option.some.inj (tFmt.symm.trans ht0)
  have hcs := laid_fmt hd0
  have hcs2 : cs0 = fmtV.toArray := by rw [← hcs]
  simp only [World.var?, hg0, Option.bind_some] at hv0
  cases hh : W.heap[0]? with
  | none => rw [hh] at hv0; simp at hv0
  | some o =>
    rw [hh] at hv0
    cases o with
    | cells cs t fr =>
      simp at hv0
      exact ⟨t, fr, by rw [hh, hv0, hcs2]⟩
    | _ => simp at hv0

theorem door_met (os : Os) (args : Array Value) : laidMetH Tryd.prog laidFmt ((World.doorLaid Tryd.prog 400 os).forCall (fun _ _ => 0) ⟨#[], args, []⟩).memory :=
  laidMetH_of_parts3 (fuel := 8) (laidMet_of_run' 8 (by kernel_rfl) (by kernel_rfl)) (by kernel_rfl) (by kernel_rfl)
end Go.Proofs.YtfpmmfoinjcclaaDoor
