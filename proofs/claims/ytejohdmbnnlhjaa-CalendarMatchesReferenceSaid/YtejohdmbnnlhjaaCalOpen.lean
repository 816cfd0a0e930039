/- Two and three numbers, as arguments. -/
import Derived.Test.YtejohdmbnnlhjaaLawKit
import Derived.Lib.SmallJoins
namespace Go.Proofs.Ytejohdmbnnlhjaa
open Go.ChangeShapes Go.WideShapes Go.ChangeAt Go.WideMaps Go.WideElems Go.RowKit Go.Joins

section
variable {H : Type} {enc : TypeId × Value → H} {w : World} {base b0 : Nat} {spare : Nat → Bool} {held : Bool} {r : Reach}
theorem open_two {v : Value} {d : DataW H} {ps : List MemPlace} (hval : Value.okWide Try.prog w r b0 36 v) (hd : DataW.Trod enc Try.prog w base spare held 36 v d ps) :
    ∃ a b : Int, v = .agg #[.int .i64 a, .int .i64 b] ∧ (Lit.int .i64 a).wf = true ∧ (Lit.int .i64 b).wf = true := by
  obtain ⟨cs, rfl, hsz⟩ := okWide_array Try.underlying36 hval
  obtain ⟨fuel, hf⟩ := hd
  obtain ⟨ys, m, _, hx, hlen, hn, hel⟩ := DataW.trod_array Try.underlying36 hf
  have hc : Try.prog.cellsOf 3 = 1 := by kernel_rfl
  have hsz4 : cs.size = 2 := hsz.trans (by kernel_rfl)
  have hone : ∀ i, i < 2 → ∃ a : Int, cs.toList[i]? = some (.int .i64 a) ∧ (Lit.int .i64 a).wf = true := fun i hi => by
    have h0 := hel i hi
    have hi' : i < ys.length := by omega
    rw [hc, Nat.mul_one, List.getElem?_eq_getElem hi'] at h0
    obtain ⟨a, e1, _, hw⟩ := DataW.trod_int Try.underlying3 h0
    refine ⟨a, ?_, hw⟩
    have := congrArg List.head? e1
    rw [List.head?_take, if_neg (by decide), List.head?_drop] at this
    simpa [Value.cells] using this
  obtain ⟨a, ha, wa⟩ := hone 0 (by decide)
  obtain ⟨b, hb, wb⟩ := hone 1 (by decide)
  obtain ⟨l⟩ := cs
  match l, hsz4 with
  | [c0, c1], _ =>
    simp at ha hb
    exact ⟨a, b, by rw [ha, hb], wa, wb⟩
theorem open_three {v : Value} {d : DataW H} {ps : List MemPlace} (hval : Value.okWide Try.prog w r b0 25 v) (hd : DataW.Trod enc Try.prog w base spare held 25 v d ps) :
    ∃ a b c : Int, v = .agg #[.int .i64 a, .int .i64 b, .int .i64 c] ∧ (Lit.int .i64 a).wf = true ∧ (Lit.int .i64 b).wf = true ∧ (Lit.int .i64 c).wf = true := by
  obtain ⟨cs, rfl, hsz⟩ := okWide_array Try.underlying25 hval
  obtain ⟨fuel, hf⟩ := hd
  obtain ⟨ys, m, _, hx, hlen, hn, hel⟩ := DataW.trod_array Try.underlying25 hf
  have hc : Try.prog.cellsOf 3 = 1 := by kernel_rfl
  have hsz4 : cs.size = 3 := hsz.trans (by kernel_rfl)
  have hone : ∀ i, i < 3 → ∃ a : Int, cs.toList[i]? = some (.int .i64 a) ∧ (Lit.int .i64 a).wf = true := fun i hi => by
    have h0 := hel i hi
    have hi' : i < ys.length := by omega
    rw [hc, Nat.mul_one, List.getElem?_eq_getElem hi'] at h0
    obtain ⟨a, e1, _, hw⟩ := DataW.trod_int Try.underlying3 h0
    refine ⟨a, ?_, hw⟩
    have := congrArg List.head? e1
    rw [List.head?_take, if_neg (by decide), List.head?_drop] at this
    simpa [Value.cells] using this
  obtain ⟨a, ha, wa⟩ := hone 0 (by decide)
  obtain ⟨b, hb, wb⟩ := hone 1 (by decide)
  obtain ⟨c, hc', wc⟩ := hone 2 (by decide)
  obtain ⟨l⟩ := cs
  match l, hsz4 with
  | [c0, c1, c2], _ =>
    simp at ha hb hc'
    exact ⟨a, b, c, by rw [ha, hb, hc'], wa, wb, wc⟩
end
end Go.Proofs.Ytejohdmbnnlhjaa
