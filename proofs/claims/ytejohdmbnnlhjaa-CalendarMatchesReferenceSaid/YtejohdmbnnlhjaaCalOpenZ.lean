/- A zone that came in. -/
import Derived.Test.YtejohdmbnnlhjaaCalOpen
import Derived.Test.YtejohdmbnnlhjaaCalIter
import Derived.Deep.SlicePairs
namespace Go.Proofs.Ytejohdmbnnlhjaa
open Go.ChangeShapes Go.WideShapes Go.ChangeAt Go.WideMaps Go.WideElems Go.RowKit Go.Joins Go.Deep

theorem pairs_list {P : Nat → Int × Int → Prop} : ∀ n, (∀ i, i < n → ∃ x, P i x) → ∃ l : List (Int × Int), l.length = n ∧ ∀ i, i < n → P i (l.getD i (0, 0))
  | 0, _ => ⟨[], rfl, fun i hi => by omega⟩
  | n + 1, h => by
    obtain ⟨l, hl, hp⟩ := pairs_list n (fun i hi => h i (by omega))
    obtain ⟨x, hx⟩ := h n (by omega)
    refine ⟨l ++ [x], by simp [hl], fun i hi => ?_⟩
    rcases (by omega : i < n ∨ i = n) with g | rfl
    · have := hp i g
      rw [List.getD_eq_getElem?_getD, List.getElem?_append_left (by omega), ← List.getD_eq_getElem?_getD]
      exact this
    · rw [List.getD_eq_getElem?_getD, List.getElem?_append_right (by omega), hl]
      simpa using hx

theorem shAt_take {w : World} {n : Nat} {p : Option Addr} {sh : List (Int × Int)} (h : ShAt w n p sh) (k : Nat) : ShAt w n p (sh.take k) := fun i hi => by
  have hi' : i < k ∧ i < sh.length := by rw [List.length_take] at hi; omega
  have e : (sh.take k).getD i (0, 0) = sh.getD i (0, 0) := by
    rw [List.getD_eq_getElem?_getD, List.getD_eq_getElem?_getD, List.getElem?_take_of_lt hi'.1]
  rw [e]
  exact h i hi'.2

section
variable {H : Type} {enc : TypeId × Value → H} {w : World} {base b0 : Nat} {held : Bool} {r : Reach}
theorem open_zone {v : Value} {d : DataW H} {ps : List MemPlace} (hval : Value.okWide Try.prog w r b0 24 v) (hd : DataW.Trod enc Try.prog w base (fun _ => true) held 24 v d ps) :
    ∃ (off : Int) (p : Option Addr) (len cap : Nat) (sh : List (Int × Int)), v = .agg #[.int .i64 off, .slice p len cap] ∧ sh.length = len ∧ len ≤ cap ∧ cap ≤ maxLen ∧ ShAt w w.heap.size p sh := by
  obtain ⟨c0, c1, y0, y1, n, rfl, -, -, h0, h1⟩ := open_agg2 Try.underlying24 (by kernel_rfl) (by kernel_rfl) hval hd
  obtain ⟨off, e0, -⟩ := DataW.trod_int Try.underlying3 h0
  simp only [List.cons.injEq, and_true] at e0
  subst e0
  rcases open_slice_pairs Try.underlying22 Try.underlying43 (by kernel_rfl) rfl rfl (by kernel_rfl) (by kernel_rfl) h1 with ⟨e1, -⟩ | ⟨a, len, cap, m, n', V0, V1, D0, D1, P0, P1, e1, -, hl, hm, hmm, -, hc⟩
  · simp only [List.cons.injEq, and_true] at e1
    subst e1
    exact ⟨off, none, 0, 0, [], rfl, rfl, by omega, Nat.zero_le _, fun i hi => by simp at hi⟩
  · simp only [List.cons.injEq, and_true] at e1
    subst e1
    simp only [if_true] at hmm
    obtain ⟨sh, hsl, hsh⟩ := pairs_list (P := fun i x => w.cell? (a.add (i * 2)) = some (iv x.1) ∧ w.cell? (a.add (i * 2 + 1)) = some (iv x.2)) len (fun i hi => by
      obtain ⟨q0, q1, t0, t1⟩ := hc i (by omega)
      obtain ⟨x, e0, -⟩ := DataW.trod_int Try.underlying3 t0
      obtain ⟨y, e1, -⟩ := DataW.trod_int Try.underlying3 t1
      simp only [List.cons.injEq, and_true] at e0 e1
      exact ⟨(x, y), by rw [q0, e0], by rw [q1, e1]⟩)
    refine ⟨off, some a, len, cap, sh, rfl, hsl, hl, hm, fun i hi => ?_⟩
    obtain ⟨q0, q1⟩ := hsh i (by omega)
    obtain ⟨b, o, spot⟩ := a
    have hspot : spot = none := by simpa [Addr.add] using World.cell?_spot (hsh 0 (by omega)).1
    subst hspot
    rw [add_plain] at q0 q1
    exact ⟨b, o, rfl, cell_lt q0, q0, by rw [Nat.add_assoc]; exact q1⟩
end
end Go.Proofs.Ytejohdmbnnlhjaa
