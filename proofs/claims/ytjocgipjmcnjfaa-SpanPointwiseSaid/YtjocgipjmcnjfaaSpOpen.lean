/- Lists of spans and spans, as arguments. -/
import Derived.Test.YtjocgipjmcnjfaaSpFns
import Derived.Test.YtjocgipjmcnjfaaLawKit
import Derived.Lib.SmallJoins
import Derived.Deep.SlicePairs
namespace Go.Proofs.Ytjocgipjmcnjfaa
open Go.ChangeShapes Go.WideShapes Go.ChangeAt Go.WideMaps Go.WideElems Go.RowKit Go.Joins Go.Deep

theorem own : ownKnob Try.prog.godebug = none := by kernel_rfl
theorem laidOut : laidOutB Try.prog = true := by kernel_rfl

theorem pairs_list {P : Nat → Int × Int → Prop} : ∀ n, (∀ i, i < n → ∃ x, P i x) → ∃ l : List (Int × Int), l.length = n ∧ ∀ i, i < n → P i (l.getD i (0, 0))
  | 0, _ => ⟨[], rfl, fun i hi => by omega⟩
  | n + 1, h => by
    obtain ⟨l, hl, hp⟩ := pairs_list n (fun i hi => h i (by omega))
    obtain ⟨x, hx⟩ := h n (by omega)
    refine ⟨l ++ [x], by simp [hl], fun i hi => ?_⟩
    rcases (by omega : i < n ∨ i = n) with g | rfl
    · have := hp i g
      rw [List.getD_eq_getElem?_getD, List.getElem?_append_left (by omega), ← List.getD_eq_getElem?_getD]
      exact this
    · rw [List.getD_eq_getElem?_getD, List.getElem?_append_right (by omega), hl]
      simpa using hx
theorem cell_ltS {w : World} {a : Addr} {v : Value} (h : w.cell? a = some v) : a.block < w.heap.size := by
  rcases Nat.lt_or_ge a.block w.heap.size with h' | h'
  · exact h'
  · simp [World.cell?, Array.getElem?_eq_none h'] at h
theorem add_plainS (b o j : Nat) : (⟨b, o, none⟩ : Addr).add j = ⟨b, o + j, none⟩ := by unfold Addr.add; split <;> simp_all

section
variable {H : Type} {enc : TypeId × Value → H} {w : World} {base b0 : Nat} {held : Bool} {r : Reach}
theorem open_span {v : Value} {d : DataW H} {ps : List MemPlace} (hval : Value.okWide Try.prog w r b0 30 v) (hd : DataW.Trod enc Try.prog w base (fun _ => true) held 30 v d ps) :
    ∃ a b : Int, v = .agg #[iv a, iv b] ∧ (Lit.int .i64 a).wf = true ∧ (Lit.int .i64 b).wf = true := by
  obtain ⟨c0, c1, y0, y1, n, rfl, -, -, h0, h1⟩ := open_agg2 Try.underlying30 (by kernel_rfl) (by kernel_rfl) hval hd
  obtain ⟨a, e0, -, w0⟩ := DataW.trod_int Try.underlying3 h0
  obtain ⟨b, e1, -, w1⟩ := DataW.trod_int Try.underlying3 h1
  simp only [List.cons.injEq, and_true] at e0 e1
  subst e0 e1
  exact ⟨a, b, rfl, w0, w1⟩
theorem open_spans {v : Value} {d : DataW H} {ps : List MemPlace} (hval : Value.okWide Try.prog w r b0 22 v) (hd : DataW.Trod enc Try.prog w base (fun _ => true) held 22 v d ps) :
    ∃ (p : Option Addr) (cap : Nat) (l : List (Int × Int)), v = .slice p l.length cap ∧ l.length ≤ cap ∧ cap ≤ 9223372036854775807 ∧ ShAt w w.heap.size p l ∧ Bd l := by
  obtain ⟨a0, len, cap, rfl⟩ := okWide_slice Try.underlying22 hval
  obtain ⟨fuel, hf⟩ := hd
  rcases open_slice_pairs Try.underlying22 Try.underlying30 (by kernel_rfl) rfl rfl (by kernel_rfl) (by kernel_rfl) hf with ⟨e1, -⟩ | ⟨a, len', cap', m, n', V0, V1, D0, D1, P0, P1, e1, -, hl, hm, hmm, -, hc⟩
  · simp [Value.cells] at e1
    obtain ⟨rfl, rfl, rfl⟩ := e1
    exact ⟨none, 0, [], rfl, by simp, Nat.zero_le _, fun i hi => by simp at hi, Bd.nil⟩
  · simp [Value.cells] at e1
    obtain ⟨rfl, rfl, rfl⟩ := e1
    simp only [if_true] at hmm
    obtain ⟨sh, hsl, hsh⟩ := pairs_list (P := fun i x => w.cell? (a.add (i * 2)) = some (iv x.1) ∧ w.cell? (a.add (i * 2 + 1)) = some (iv x.2) ∧ (Lit.int .i64 x.1).wf = true ∧ (Lit.int .i64 x.2).wf = true) len (fun i hi => by
      obtain ⟨q0, q1, t0, t1⟩ := hc i (by omega)
      obtain ⟨x, e0, -, w0⟩ := DataW.trod_int Try.underlying3 t0
      obtain ⟨y, e1, -, w1⟩ := DataW.trod_int Try.underlying3 t1
      simp only [List.cons.injEq, and_true] at e0 e1
      exact ⟨(x, y), by rw [q0, e0], by rw [q1, e1], w0, w1⟩)
    subst hsl
    refine ⟨some a, cap, sh, rfl, hl, by unfold maxLen at hm; exact hm, fun i hi => ?_, fun s hs => ?_⟩
    · obtain ⟨q0, q1, -, -⟩ := hsh i hi
      obtain ⟨b, o, spot⟩ := a
      have hspot : spot = none := by simpa [Addr.add] using World.cell?_spot (hsh 0 (by omega)).1
      subst hspot
      rw [add_plainS] at q0 q1
      exact ⟨b, o, rfl, cell_ltS q0, q0, by rw [Nat.add_assoc]; exact q1⟩
    · obtain ⟨i, hi, rfl⟩ := List.getElem_of_mem hs
      obtain ⟨-, -, w0, w1⟩ := hsh i hi
      rw [List.getD_eq_getElem?_getD, List.getElem?_eq_getElem hi] at w0 w1
      have h0 := wf64 w0
      have h1 := wf64 w1
      simp only [Option.getD_some] at h0 h1
      omega
end
end Go.Proofs.Ytjocgipjmcnjfaa
