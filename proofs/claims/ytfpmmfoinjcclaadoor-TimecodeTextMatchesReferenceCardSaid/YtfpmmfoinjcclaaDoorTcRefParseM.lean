/- What the reference implementation's Parse tests. -/
import Derived.Test.YtfpmmfoinjcclaaDoorTcRefParse
namespace Go.Proofs.YtfpmmfoinjcclaaDoor
open Go.RowKit

def dg (l : List Nat) (k : Nat) : Prop := (48 ≤ l.getD k 0 ∧ l.getD k 0 ≤ 57) ∧ (48 ≤ l.getD (k + 1) 0 ∧ l.getD (k + 1) 0 ≤ 57)
def vl (l : List Nat) (k : Nat) : Nat := (l.getD k 0 - 48) * 10 + (l.getD (k + 1) 0 - 48)

theorem vl_txt {p h m s f : Nat} : vl (txtL p h m s f) 0 = h ∧ vl (txtL p h m s f) 3 = m ∧ vl (txtL p h m s f) 6 = s ∧ vl (txtL p h m s f) 9 = f := by
  simp only [vl, txtL, two, List.cons_append, List.nil_append, List.getD_cons_zero, List.getD_cons_succ]
  omega
theorem dg_txt {p h m s f : Nat} (b1 : h < 100) (b2 : m < 100) (b3 : s < 100) (b4 : f < 100) {j : Nat} (hj : j < 4) : dg (txtL p h m s f) (3 * j) := by
  rcases (by omega : j = 0 ∨ j = 1 ∨ j = 2 ∨ j = 3) with rfl | rfl | rfl | rfl <;>
    simp only [dg, txtL, two, List.cons_append, List.nil_append, List.getD_cons_zero, List.getD_cons_succ, Nat.mul_zero, Nat.mul_one, Nat.reduceMul, Nat.reduceAdd] <;> omega

theorem rparse_dg {x : Rt} (hx : x ∈ rtL) {l : List Nat} (hl : l.length = 11) {j : Nat} (hj : j < 4) (h : ¬ dg l (3 * j)) : parseZ x l = none := by
  cases hp : parseZ x l with
  | none => rfl
  | some n =>
    obtain ⟨hh, m, s, f, b1, b2, b3, b4, rfl, -, -⟩ := parse_some hl hp
    have hb := base_le hx
    exact absurd (dg_txt (by omega) (by omega) (by omega) (by omega) hj) h

theorem rparse_val {x : Rt} (hx : x ∈ rtL) {l : List Nat} (hl : l.length = 11) :
    parseZ x l = if (vl l 0 < 24 ∧ vl l 3 < 60 ∧ vl l 6 < 60 ∧ vl l 9 < x.base) ∧ l = txtL x.sep (vl l 0) (vl l 3) (vl l 6) (vl l 9) ∧ ¬ (vl l 3 % 10 ≠ 0 ∧ vl l 6 = 0 ∧ vl l 9 < x.drop)
      then some (indexZ x (60 * vl l 0 + vl l 3) (vl l 6) (vl l 9)) else none := by
  have hb := base_le hx
  split
  · rename_i h
    obtain ⟨⟨h1, h2, h3, h4⟩, h5, h6⟩ := h
    have e := parse_txt (x := x) (h := vl l 0) (m := vl l 3) (s := vl l 6) (f := vl l 9) (by omega) h1 h2 h3 h4
    rw [← h5, if_neg h6] at e
    exact e
  · rename_i h
    cases hp : parseZ x l with
    | none => rfl
    | some n =>
      obtain ⟨hh, m, s, f, b1, b2, b3, b4, rfl, hd, rfl⟩ := parse_some hl hp
      obtain ⟨v1, v2, v3, v4⟩ := vl_txt (p := x.sep) (h := hh) (m := m) (s := s) (f := f)
      rw [v1, v2, v3, v4] at h
      exact absurd ⟨⟨b1, b2, b3, b4⟩, rfl, hd⟩ h

theorem skip_test {x : Rt} {h m s f : Nat} : (s = 0 ∧ f < skipZ x (60 * h + m)) ↔ (m % 10 ≠ 0 ∧ s = 0 ∧ f < x.drop) := by
  unfold skipZ
  have e : (60 * h + m) % 10 = m % 10 := by omega
  rw [e]
  split <;> omega

theorem index_last {x : Rt} (hx : x ∈ rtL) {m s f : Nat} (hs : s < 60) :
    ((m * x.minute : Nat) : Int) - (droppedZ x m : Int) + (s * x.base : Nat) + f - (skipZ x m : Int) = (indexZ x m s f : Int) ∧ droppedZ x m ≤ m * x.minute ∧ droppedZ x (m + 1) ≤ m * x.minute := by
  have e := dropped_succ x m
  have b : droppedZ x (m + 1) ≤ m * x.minute := by
    unfold droppedZ
    rcases rt_cases hx with rfl | rfl | rfl | rfl | rfl | rfl | rfl | rfl <;> simp only [Rt.minute] <;> omega
  unfold indexZ
  omega
end Go.Proofs.YtfpmmfoinjcclaaDoor
