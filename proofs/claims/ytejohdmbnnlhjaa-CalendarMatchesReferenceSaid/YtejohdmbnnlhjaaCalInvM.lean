/- At and Local are inverse, on plain numbers. -/
import Derived.Test.YtejohdmbnnlhjaaCalSteady
namespace Go.Proofs.Ytejohdmbnnlhjaa
open Go.RowKit

theorem mem_atRun {u x : Int} : ∀ {T : List Str} {t : List Int}, x ∈ atRun u t T ↔ x ∈ t ∨ ∃ st ∈ T, st.1 ≤ x ∧ x < st.2.1 ∧ x = u - st.2.2
  | [], t => by simp [atRun]
  | y :: r, t => by
    unfold atRun
    rw [mem_atRun (T := r)]
    split
    · rename_i h
      constructor
      · rintro (h1 | ⟨st, h1, h2⟩)
        · rcases List.mem_append.1 h1 with h1 | h1
          · exact .inl h1
          · simp at h1; subst h1; exact .inr ⟨y, by simp, h.1, h.2, rfl⟩
        · exact .inr ⟨st, by simp [h1], h2⟩
      · rintro (h1 | ⟨st, h1, h2⟩)
        · exact .inl (by simp [h1])
        · rcases List.mem_cons.1 h1 with rfl | h1
          · exact .inl (by simp [h2.2.2])
          · exact .inr ⟨st, h1, h2⟩
    · rename_i h
      constructor
      · rintro (h1 | ⟨st, h1, h2⟩)
        · exact .inl h1
        · exact .inr ⟨st, by simp [h1], h2⟩
      · rintro (h1 | ⟨st, h1, h2⟩)
        · exact .inl h1
        · rcases List.mem_cons.1 h1 with rfl | h1
          · exact absurd ⟨by omega, by omega⟩ h
          · exact .inr ⟨st, h1, h2⟩

theorem strs_find {x : Int} (hx : x < 10000000001) : ∀ {sh : List (Int × Int)} {f o : Int}, f ≤ x → ∃ st ∈ strs f o sh, st.1 ≤ x ∧ x < st.2.1 ∧ st.2.2 = offL x o sh
  | [], f, o, h => ⟨(f, 10000000001, o), by simp [strs], h, hx, rfl⟩
  | (a, p) :: r, f, o, h => by
    by_cases ha : a ≤ x
    · obtain ⟨st, h1, h2⟩ := strs_find hx (sh := r) (o := p) ha
      exact ⟨st, by simp [strs, h1], by unfold offL; rw [if_pos ha]; exact h2⟩
    · exact ⟨(f, a, o), by simp [strs], h, by simp; omega, by unfold offL; rw [if_neg ha]⟩
theorem strs_ge : ∀ {sh : List (Int × Int)} {f o l : Int}, ascZ l sh = true → f ≤ l + 1 → ∀ st ∈ strs f o sh, f ≤ st.1
  | [], f, o, l, _, _, st, h => by simp [strs] at h; subst h; exact Int.le_refl _
  | (a, p) :: r, f, o, l, ha, hl, st, h => by
    simp only [ascZ, Bool.and_eq_true, decide_eq_true_eq] at ha
    rcases List.mem_cons.1 h with rfl | h
    · exact Int.le_refl _
    · have := strs_ge ha.2 (by omega) st h
      omega
theorem strs_off {x : Int} : ∀ {sh : List (Int × Int)} {f o l : Int}, ascZ l sh = true → ∀ st ∈ strs f o sh, st.1 ≤ x → x < st.2.1 → offL x o sh = st.2.2
  | [], f, o, l, _, st, h, _, _ => by simp [strs] at h; subst h; rfl
  | (a, p) :: r, f, o, l, ha, st, h, h1, h2 => by
    simp only [ascZ, Bool.and_eq_true, decide_eq_true_eq] at ha
    unfold offL
    rcases List.mem_cons.1 h with rfl | h
    · rw [if_neg (by simp at h2; omega)]
    · have := strs_ge ha.2 (by omega) st h
      rw [if_pos (by omega)]
      exact strs_off ha.2 st h h1 h2
theorem at_sorted {u : Int} : ∀ {sh : List (Int × Int)} {f o l : Int} {t : List Int}, ascZ l sh = true → f ≤ l + 1 → t.Pairwise (· < ·) → (∀ y ∈ t, y < f) → (atRun u t (strs f o sh)).Pairwise (· < ·)
  | [], f, o, l, t, _, _, hp, ht => by
    unfold strs atRun atRun
    split
    · rename_i h
      exact List.pairwise_append.2 ⟨hp, by simp, fun y hy z hz => by simp at hz; subst hz; have := ht y hy; have := h.1; simp at this; omega⟩
    · exact hp
  | (a, p) :: r, f, o, l, t, ha, hl, hp, ht => by
    simp only [ascZ, Bool.and_eq_true, decide_eq_true_eq] at ha
    unfold strs atRun
    refine at_sorted ha.2 (by omega) ?_ ?_
    · split
      · rename_i h
        exact List.pairwise_append.2 ⟨hp, by simp, fun y hy z hz => by simp at hz; subst hz; have := ht y hy; have := h.1; simp at this; omega⟩
      · exact hp
    · intro y hy
      split at hy
      · rename_i h
        rcases List.mem_append.1 hy with hy | hy
        · have := ht y hy; omega
        · simp at hy; subst hy; have := h.2; simp at this; omega
      · have := ht y hy; omega

/-- What the statement asks of At and Local. -/
theorem inv_math {off s : Int} {sh : List (Int × Int)} (hv : validZ off sh = true) (hs0 : 0 ≤ s) (hs1 : s ≤ 10000000000) : ∃ a b, localZ off sh s = (a, b) ∧ 0 ≤ b ∧ b < 86400 ∧ -1 ≤ a ∧ a ≤ 115741 ∧ s ∈ atT off sh a b := by
  obtain ⟨a, b, e1, e2, e3, e4, e5, e6⟩ := local_val hv hs0 hs1
  refine ⟨a, b, e1, e3, e4, e5, e6, ?_⟩
  unfold atT atZ
  rw [hv, okDay_iff.2 ⟨e5, e6⟩, okSod_iff.2 ⟨e3, e4⟩]
  simp only [Bool.and_self, if_true]
  obtain ⟨st, h1, h2, h3, h4⟩ := strs_find (x := s) (by omega) (sh := sh) (f := 0) (o := off) hs0
  exact mem_atRun.2 (.inr ⟨st, h1, h2, h3, by omega⟩)
theorem inv_math2 {off d n : Int} {sh : List (Int × Int)} (hv : validZ off sh = true) (hd0 : -1 ≤ d) (hd1 : d ≤ 115741) (hn0 : 0 ≤ n) (hn1 : n < 86400) : (∀ x ∈ atT off sh d n, 0 ≤ x ∧ x ≤ 10000000000 ∧ localZ off sh x = (d, n)) ∧ (atT off sh d n).Pairwise (· < ·) := by
  have hasc := valid_asc hv
  have hok := (valid_iff hv).2.2
  unfold atT atZ
  rw [hv, okDay_iff.2 ⟨hd0, hd1⟩, okSod_iff.2 ⟨hn0, hn1⟩]
  simp only [Bool.and_self, if_true]
  refine ⟨fun x hx => ?_, at_sorted hasc (by omega) List.Pairwise.nil (fun y hy => by cases hy)⟩
  rcases mem_atRun.1 hx with h | ⟨st, h1, h2, h3, h4⟩
  · cases h
  · have := hok st h1
    unfold StrOk at this
    have ho := strs_off hasc st h1 h2 h3
    obtain ⟨a, b, e1, e2, e3, e4, e5, e6⟩ := local_val (s := x) hv (by omega) (by omega)
    refine ⟨by omega, by omega, ?_⟩
    rw [e1, Prod.mk.injEq]
    omega
theorem pair_lt {l : List Int} (h : l.Pairwise (· < ·)) {i : Nat} (hi : i + 1 < l.length) : l.getD i 0 < l.getD (i + 1) 0 := by
  rw [List.getD_eq_getElem?_getD, List.getD_eq_getElem?_getD, List.getElem?_eq_getElem hi, List.getElem?_eq_getElem (show i < l.length by omega)]
  exact List.pairwise_iff_getElem.1 h i (i + 1) (by omega) hi (by omega)
theorem getD_mem {l : List Int} {i : Nat} (hi : i < l.length) : l.getD i 0 ∈ l := by
  rw [List.getD_eq_getElem?_getD, List.getElem?_eq_getElem hi]
  exact List.getElem_mem hi

theorem ivs_len (l : List Int) : (ivs l).length = l.length := by simp [ivs]
theorem ints_at {W : World} {base : Nat} {v : Value} {l : List Int} (h : W.ownsRow base 3 1 v l.length (ivs l)) : ∃ p cap, v = .slice p l.length cap ∧ l.length ≤ 9223372036854775807 ∧ ∀ i, i < l.length → ∃ g, p = some ⟨g, 0, none⟩ ∧ g < W.heap.size ∧ W.cell? ⟨g, i, none⟩ = some (iv (l.getD i 0)) := by
  rcases h.2 with ⟨rfl, h0⟩ | ⟨g, cap, cur, rfl, _, _, h1, h2, _⟩
  · exact ⟨none, 0, by rw [h0], by omega, fun i hi => by omega⟩
  · refine ⟨_, cap, rfl, by unfold maxLen at h2; omega, fun i hi => ⟨g, rfl, (h.lt g rfl).2, ?_⟩⟩
    rw [h.cellAt i (by omega)]
    simp [ivs, List.getElem?_eq_getElem hi, List.getD_eq_getElem?_getD]
end Go.Proofs.Ytejohdmbnnlhjaa
