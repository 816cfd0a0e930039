/- A rate and four numbers, as arguments. -/
import Derived.Test.YtfpmmfoinjcclaaDoorLawKit
import Derived.Lib.SmallJoins
namespace Go.Proofs.YtfpmmfoinjcclaaDoor
open Go.ChangeShapes Go.WideShapes Go.ChangeAt Go.WideMaps Go.WideElems Go.RowKit Go.Joins

section
variable {H : Type} {enc : TypeId × Value → H} {w : World} {base b0 : Nat} {spare : Nat → Bool} {held : Bool} {r : Reach}
theorem open_rate {v : Value} {d : DataW H} {ps : List MemPlace} (hval : Value.okWide Tryd.prog w r b0 23 v) (hd : DataW.Trod enc Tryd.prog w base spare held 23 v d ps) :
    ∃ a b : Int, v = .agg #[.int .i64 a, .int .i64 b] := by
  obtain ⟨c0, c1, y0, y1, n, rfl, -, -, h0, h1⟩ := open_agg2 Tryd.underlying23 (by kernel_rfl) (by kernel_rfl) hval hd
  obtain ⟨a, e0, -⟩ := DataW.trod_int Tryd.underlying3 h0
  obtain ⟨b, e1, -⟩ := DataW.trod_int Tryd.underlying3 h1
  simp only [List.cons.injEq, and_true] at e0 e1
  exact ⟨a, b, by rw [e0, e1]⟩
theorem open_four {v : Value} {d : DataW H} {ps : List MemPlace} (hval : Value.okWide Tryd.prog w r b0 45 v) (hd : DataW.Trod enc Tryd.prog w base spare held 45 v d ps) :
    ∃ a b c e : Int, v = .agg #[.int .i64 a, .int .i64 b, .int .i64 c, .int .i64 e] ∧ (Lit.int .i64 a).wf = true ∧ (Lit.int .i64 b).wf = true ∧ (Lit.int .i64 c).wf = true ∧ (Lit.int .i64 e).wf = true := by
  obtain ⟨cs, rfl, hsz⟩ := okWide_array Tryd.underlying45 hval
  obtain ⟨fuel, hf⟩ := hd
  obtain ⟨ys, m, _, hx, hlen, hn, hel⟩ := DataW.trod_array Tryd.underlying45 hf
  have hc : Tryd.prog.cellsOf 3 = 1 := by kernel_rfl
  have hsz4 : cs.size = 4 := hsz.trans (by kernel_rfl)
  have hone : ∀ i, i < 4 → ∃ a : Int, cs.toList[i]? = some (.int .i64 a) ∧ (Lit.int .i64 a).wf = true := fun i hi => by
    have h0 := hel i hi
    have hi' : i < ys.length := by omega
    rw [hc, Nat.mul_one, List.getElem?_eq_getElem hi'] at h0
    obtain ⟨a, e1, _, hw⟩ := DataW.trod_int Tryd.underlying3 h0
    refine ⟨a, ?_, hw⟩
    have := congrArg List.head? e1
    rw [List.head?_take, if_neg (by decide), List.head?_drop] at this
    simpa [Value.cells] using this
  obtain ⟨a, ha, wa⟩ := hone 0 (by decide)
  obtain ⟨b, hb, wb⟩ := hone 1 (by decide)
  obtain ⟨c, hc', wc⟩ := hone 2 (by decide)
  obtain ⟨e, he, we⟩ := hone 3 (by decide)
  obtain ⟨l⟩ := cs
  match l, hsz4 with
  | [c0, c1, c2, c3], _ =>
    simp at ha hb hc' he
    exact ⟨a, b, c, e, by rw [ha, hb, hc', he], wa, wb, wc, we⟩
end
end Go.Proofs.YtfpmmfoinjcclaaDoor
