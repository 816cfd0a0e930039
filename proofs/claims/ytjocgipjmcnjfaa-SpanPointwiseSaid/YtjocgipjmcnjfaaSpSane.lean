/- The fixed examples. -/
import Derived.Test.YtjocgipjmcnjfaaSpLawA
namespace Go.Proofs.Ytjocgipjmcnjfaa
open Go.RowKit Go.Shelf

instance (l : List (Int × Int)) : Decidable (Bd l) := inferInstanceAs (Decidable (∀ s ∈ l, _))
theorem after {n : Nat} {w W W' : World} {o : Obj} (h : Below n w W) (hn : n ≤ W.heap.size) (b : Below (W.alloc o).heap.size (W.alloc o) W') : Below n w W' :=
  h.trans (((Below.refl _ W).alloc hn o).trans (b.mono (by simp; omega)))
theorem sh_after {W W' : World} {p : Option Addr} {l : List (Int × Int)} {o : Obj} (h : ShAt W W.heap.size p l) (b : Below (W.alloc o).heap.size (W.alloc o) W') : ShAt W' W'.heap.size p l :=
  h.into (after (Below.refl _ W) (Nat.le_refl _) b)
theorem spans_lit (L : List (Int × Int)) (w : World) (n cap : Nat) (hn : n = 2 * L.length) (hlen : L.length ≤ 100) :
    Calls Try.prog 35 #[.slice (some ⟨w.heap.size, 0, none⟩) n cap] (w.alloc (.cells (spv L).toArray 3)) (Own (w.alloc (.cells (spv L).toArray 3)) L) :=
  spans_any _ L n cap hn _ (Arr.new w 3 (spv L)) hlen

set_option maxRecDepth 100000 in
set_option maxHeartbeats 8000000 in
theorem sane_any (w : World) : Calls Try.prog 11 #[] w fun e w' => e = .returned (.bool true) ∧ Below w.heap.size w w' := by
  have f1 : nrmZ [(5, 9), (0, 3), (3, 5), (20, 20)] = [(0, 9)] := by decide
  have f2 : intZ [(0, 10), (20, 30)] [(5, 25)] = [(5, 10), (20, 25)] := by decide
  have f3 : subZ [(0, 10)] [(3, 4), (8, 20)] = [(0, 3), (4, 8)] := by decide
  have f4 : uniZ [(0, 1)] [(1, 2), (4, 5)] = [(0, 2), (4, 5)] := by decide
  have f5 : earlZ [(0, 4), (6, 20)] 2 5 = (6, true) := by decide
  have f6 : earlZ [(0, 4)] 2 3 = (0, false) := by decide
  have f7 : covZ [(0, 4), (4, 9)] (2, 9) = true := by decide
  have f8 : hasZ [(1, 2)] 1 = true := by decide
  have f9 : hasZ [(1, 2)] 2 = false := by decide
  have f10 : totZ [(0, 4), (2, 9)] = 9 := by decide
  have f11 : ascB [(0, 3), (4, 5)] = true := by decide
  have f12 : ascB [(0, 3), (3, 5)] = false := by decide
  have f13 : decide (nrmZ [(0, 2)] = nrmZ [(0, 1), (1, 2)]) = true := by decide
  have f14 : decide (nrmZ [(0, 2)] = nrmZ []) = false := by decide
  have bb0 := Below.refl w.heap.size w
  go_enter Try.func11, Try.ntmps11
  go_wp2_with fail
  refine Calls.mono (spans_lit [(5, 9), (0, 3), (3, 5), (20, 20)] _ 8 8 (by decide) (by decide)) ?_
  rintro e w1 ⟨v, rfl, o, b⟩
  have bb1 := after bb0 (Nat.le_refl _) b
  obtain ⟨p0, c0, rfl, S0, C0⟩ := own_shc o
  clear o b
  go_wp2_with fail
  refine Calls.mono (by have h := normal_own p0 c0 [(5, 9), (0, 3), (3, 5), (20, 20)] _ S0 (by decide); rw [f1] at h; exact h) ?_
  rintro e w2 ⟨v, rfl, o, b⟩
  have bb2 := bthen bb1 b
  obtain ⟨p1, c1, rfl, S1, C1⟩ := own_shc o
  clear o b
  go_wp2_with fail
  refine Calls.mono (spans_lit [(0, 9)] _ 2 2 (by decide) (by decide)) ?_
  rintro e w3 ⟨v, rfl, o, b⟩
  have bb3 := after bb2 bb2.size b
  have S1 := sh_after S1 b
  obtain ⟨p2, c2, rfl, S2, C2⟩ := own_shc o
  clear o b
  go_wp2_with fail
  refine Calls.mono (by have h := requal_any p1 p2 c1 c2 [(0, 9)] [(0, 9)] _ S1 S2 (by decide) (by decide); rw [decide_eq_true rfl] at h; exact h) ?_
  rintro e w4 ⟨rfl, b⟩
  have bb4 := bthen bb3 b
  clear b
  go_wp2_with fail
  refine Calls.mono (spans_lit [(0, 10), (20, 30)] _ 4 4 (by decide) (by decide)) ?_
  rintro e w5 ⟨v, rfl, o, b⟩
  have bb5 := after bb4 bb4.size b
  obtain ⟨p3, c3, rfl, S3, C3⟩ := own_shc o
  clear o b
  go_wp2_with fail
  refine Calls.mono (spans_lit [(5, 25)] _ 2 2 (by decide) (by decide)) ?_
  rintro e w6 ⟨v, rfl, o, b⟩
  have bb6 := after bb5 bb5.size b
  have S3 := sh_after S3 b
  obtain ⟨p4, c4, rfl, S4, C4⟩ := own_shc o
  clear o b
  go_wp2_with fail
  refine Calls.mono (by have h := inter_any p3 p4 c3 c4 [(0, 10), (20, 30)] [(5, 25)] _ S3 S4 (by decide) (by decide) C3 C4 (by decide) (by decide); rw [f2] at h; exact h) ?_
  rintro e w7 ⟨v, rfl, o, b⟩
  have bb7 := bthen bb6 b
  obtain ⟨p5, c5, rfl, S5, C5⟩ := own_shc o
  clear o b
  go_wp2_with fail
  refine Calls.mono (spans_lit [(5, 10), (20, 25)] _ 4 4 (by decide) (by decide)) ?_
  rintro e w8 ⟨v, rfl, o, b⟩
  have bb8 := after bb7 bb7.size b
  have S5 := sh_after S5 b
  obtain ⟨p6, c6, rfl, S6, C6⟩ := own_shc o
  clear o b
  go_wp2_with fail
  refine Calls.mono (by have h := requal_any p5 p6 c5 c6 [(5, 10), (20, 25)] [(5, 10), (20, 25)] _ S5 S6 (by decide) (by decide); rw [decide_eq_true rfl] at h; exact h) ?_
  rintro e w9 ⟨rfl, b⟩
  have bb9 := bthen bb8 b
  clear b
  go_wp2_with fail
  refine Calls.mono (spans_lit [(0, 10)] _ 2 2 (by decide) (by decide)) ?_
  rintro e w10 ⟨v, rfl, o, b⟩
  have bb10 := after bb9 bb9.size b
  obtain ⟨p7, c7, rfl, S7, C7⟩ := own_shc o
  clear o b
  go_wp2_with fail
  refine Calls.mono (spans_lit [(3, 4), (8, 20)] _ 4 4 (by decide) (by decide)) ?_
  rintro e w11 ⟨v, rfl, o, b⟩
  have bb11 := after bb10 bb10.size b
  have S7 := sh_after S7 b
  obtain ⟨p8, c8, rfl, S8, C8⟩ := own_shc o
  clear o b
  go_wp2_with fail
  refine Calls.mono (by have h := subtract_any p7 p8 c7 c8 [(0, 10)] [(3, 4), (8, 20)] _ S7 S8 (by decide) (by decide) C7 C8 (by decide) (by decide); rw [f3] at h; exact h) ?_
  rintro e w12 ⟨v, rfl, o, b⟩
  have bb12 := bthen bb11 b
  obtain ⟨p9, c9, rfl, S9, C9⟩ := own_shc o
  clear o b
  go_wp2_with fail
  refine Calls.mono (spans_lit [(0, 3), (4, 8)] _ 4 4 (by decide) (by decide)) ?_
  rintro e w13 ⟨v, rfl, o, b⟩
  have bb13 := after bb12 bb12.size b
  have S9 := sh_after S9 b
  obtain ⟨p10, c10, rfl, S10, C10⟩ := own_shc o
  clear o b
  go_wp2_with fail
  refine Calls.mono (by have h := requal_any p9 p10 c9 c10 [(0, 3), (4, 8)] [(0, 3), (4, 8)] _ S9 S10 (by decide) (by decide); rw [decide_eq_true rfl] at h; exact h) ?_
  rintro e w14 ⟨rfl, b⟩
  have bb14 := bthen bb13 b
  clear b
  go_wp2_with fail
  refine Calls.mono (spans_lit [(0, 1)] _ 2 2 (by decide) (by decide)) ?_
  rintro e w15 ⟨v, rfl, o, b⟩
  have bb15 := after bb14 bb14.size b
  obtain ⟨p11, c11, rfl, S11, C11⟩ := own_shc o
  clear o b
  go_wp2_with fail
  refine Calls.mono (spans_lit [(1, 2), (4, 5)] _ 4 4 (by decide) (by decide)) ?_
  rintro e w16 ⟨v, rfl, o, b⟩
  have bb16 := after bb15 bb15.size b
  have S11 := sh_after S11 b
  obtain ⟨p12, c12, rfl, S12, C12⟩ := own_shc o
  clear o b
  go_wp2_with fail
  refine Calls.mono (by have h := union_any p11 p12 c11 c12 [(0, 1)] [(1, 2), (4, 5)] _ S11 S12 (by decide) (by decide) C11 C12 (by decide) (by decide); rw [f4] at h; exact h) ?_
  rintro e w17 ⟨v, rfl, o, b⟩
  have bb17 := bthen bb16 b
  obtain ⟨p13, c13, rfl, S13, C13⟩ := own_shc o
  clear o b
  go_wp2_with fail
  refine Calls.mono (spans_lit [(0, 2), (4, 5)] _ 4 4 (by decide) (by decide)) ?_
  rintro e w18 ⟨v, rfl, o, b⟩
  have bb18 := after bb17 bb17.size b
  have S13 := sh_after S13 b
  obtain ⟨p14, c14, rfl, S14, C14⟩ := own_shc o
  clear o b
  go_wp2_with fail
  refine Calls.mono (by have h := requal_any p13 p14 c13 c14 [(0, 2), (4, 5)] [(0, 2), (4, 5)] _ S13 S14 (by decide) (by decide); rw [decide_eq_true rfl] at h; exact h) ?_
  rintro e w19 ⟨rfl, b⟩
  have bb19 := bthen bb18 b
  clear b
  go_wp2_with fail
  refine Calls.mono (spans_lit [(0, 4), (6, 20)] _ 4 4 (by decide) (by decide)) ?_
  rintro e w20 ⟨v, rfl, o, b⟩
  have bb20 := after bb19 bb19.size b
  obtain ⟨p15, c15, rfl, S15, C15⟩ := own_shc o
  clear o b
  go_wp2_with fail
  refine Calls.mono (by have h := earliest_any p15 c15 [(0, 4), (6, 20)] 2 5 _ S15 (by decide) (by decide) (by decide) (by decide) (by decide); rw [f5] at h; exact h) ?_
  rintro e w21 ⟨rfl, b⟩
  have bb21 := bthen bb20 b
  clear b
  go_wp2_with fail
  refine Calls.mono (spans_lit [(0, 4)] _ 2 2 (by decide) (by decide)) ?_
  rintro e w22 ⟨v, rfl, o, b⟩
  have bb22 := after bb21 bb21.size b
  obtain ⟨p16, c16, rfl, S16, C16⟩ := own_shc o
  clear o b
  go_wp2_with fail
  refine Calls.mono (by have h := earliest_any p16 c16 [(0, 4)] 2 3 _ S16 (by decide) (by decide) (by decide) (by decide) (by decide); rw [f6] at h; exact h) ?_
  rintro e w23 ⟨rfl, b⟩
  have bb23 := bthen bb22 b
  clear b
  go_wp2_with fail
  refine Calls.mono (spans_lit [(0, 4), (4, 9)] _ 4 4 (by decide) (by decide)) ?_
  rintro e w24 ⟨v, rfl, o, b⟩
  have bb24 := after bb23 bb23.size b
  obtain ⟨p17, c17, rfl, S17, C17⟩ := own_shc o
  clear o b
  go_wp2_with fail
  refine Calls.mono (by have h := covers_any p17 c17 [(0, 4), (4, 9)] 2 9 _ S17 (by decide); rw [f7] at h; exact h) ?_
  rintro e w25 ⟨rfl, b⟩
  have bb25 := bthen bb24 b
  clear b
  go_wp2_with fail
  refine Calls.mono (spans_lit [(1, 2)] _ 2 2 (by decide) (by decide)) ?_
  rintro e w26 ⟨v, rfl, o, b⟩
  have bb26 := after bb25 bb25.size b
  obtain ⟨p18, c18, rfl, S18, C18⟩ := own_shc o
  clear o b
  go_wp2_with fail
  refine Calls.mono (by have h := has_any p18 c18 [(1, 2)] 1 _ S18 (by decide); rw [f8] at h; exact h) ?_
  rintro e w27 ⟨rfl, b⟩
  have bb27 := bthen bb26 b
  clear b
  go_wp2_with fail
  refine Calls.mono (spans_lit [(1, 2)] _ 2 2 (by decide) (by decide)) ?_
  rintro e w28 ⟨v, rfl, o, b⟩
  have bb28 := after bb27 bb27.size b
  obtain ⟨p19, c19, rfl, S19, C19⟩ := own_shc o
  clear o b
  go_wp2_with fail
  refine Calls.mono (by have h := has_any p19 c19 [(1, 2)] 2 _ S19 (by decide); rw [f9] at h; exact h) ?_
  rintro e w29 ⟨rfl, b⟩
  have bb29 := bthen bb28 b
  clear b
  go_wp2_with fail
  refine Calls.mono (spans_lit [(0, 4), (2, 9)] _ 4 4 (by decide) (by decide)) ?_
  rintro e w30 ⟨v, rfl, o, b⟩
  have bb30 := after bb29 bb29.size b
  obtain ⟨p20, c20, rfl, S20, C20⟩ := own_shc o
  clear o b
  go_wp2_with fail
  refine Calls.mono (by have h := total_any p20 c20 [(0, 4), (2, 9)] _ S20 (by decide) (by decide); rw [f10] at h; exact h) ?_
  rintro e w31 ⟨rfl, b⟩
  have bb31 := bthen bb30 b
  clear b
  go_wp2_with fail
  refine Calls.mono (spans_lit [(0, 3), (4, 5)] _ 4 4 (by decide) (by decide)) ?_
  rintro e w32 ⟨v, rfl, o, b⟩
  have bb32 := after bb31 bb31.size b
  obtain ⟨p21, c21, rfl, S21, C21⟩ := own_shc o
  clear o b
  go_wp2_with fail
  refine Calls.mono (by have h := valid_any p21 c21 [(0, 3), (4, 5)] _ S21 (by decide); rw [f11] at h; exact h) ?_
  rintro e w33 ⟨rfl, b⟩
  have bb33 := bthen bb32 b
  clear b
  go_wp2_with fail
  refine Calls.mono (spans_lit [(0, 3), (3, 5)] _ 4 4 (by decide) (by decide)) ?_
  rintro e w34 ⟨v, rfl, o, b⟩
  have bb34 := after bb33 bb33.size b
  obtain ⟨p22, c22, rfl, S22, C22⟩ := own_shc o
  clear o b
  go_wp2_with fail
  refine Calls.mono (by have h := valid_any p22 c22 [(0, 3), (3, 5)] _ S22 (by decide); rw [f12] at h; exact h) ?_
  rintro e w35 ⟨rfl, b⟩
  have bb35 := bthen bb34 b
  clear b
  go_wp2_with fail
  refine Calls.mono (spans_lit [(0, 2)] _ 2 2 (by decide) (by decide)) ?_
  rintro e w36 ⟨v, rfl, o, b⟩
  have bb36 := after bb35 bb35.size b
  obtain ⟨p23, c23, rfl, S23, C23⟩ := own_shc o
  clear o b
  go_wp2_with fail
  refine Calls.mono (spans_lit [(0, 1), (1, 2)] _ 4 4 (by decide) (by decide)) ?_
  rintro e w37 ⟨v, rfl, o, b⟩
  have bb37 := after bb36 bb36.size b
  have S23 := sh_after S23 b
  obtain ⟨p24, c24, rfl, S24, C24⟩ := own_shc o
  clear o b
  go_wp2_with fail
  refine Calls.mono (by have h := same_any p23 p24 c23 c24 [(0, 2)] [(0, 1), (1, 2)] _ S23 S24 (by decide) (by decide); rw [f13] at h; exact h) ?_
  rintro e w38 ⟨rfl, b⟩
  have bb38 := bthen bb37 b
  clear b
  go_wp2_with fail
  refine Calls.mono (spans_lit [(0, 2)] _ 2 2 (by decide) (by decide)) ?_
  rintro e w39 ⟨v, rfl, o, b⟩
  have bb39 := after bb38 bb38.size b
  obtain ⟨p25, c25, rfl, S25, C25⟩ := own_shc o
  clear o b
  go_wp2_with fail
  refine Calls.mono (by have h := same_any p25 none c25 0 [(0, 2)] [] _ S25 (ShAt.nil _ _ _) (by decide) (by decide); rw [f14] at h; exact h) ?_
  rintro e w40 ⟨rfl, b⟩
  have bb40 := bthen bb39 b
  clear b
  go_wp2_with fail
  go_ret
  exact ⟨rfl, bb40⟩
end Go.Proofs.Ytjocgipjmcnjfaa
