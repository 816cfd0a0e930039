/- What Proof and Extension return is accepted, is short, and no other length is accepted. -/
import Derived.Test.YtfgojhhphknjkaaDoorDigBind
namespace Go.Proofs.YtfgojhhphknjkaaDoor
open Go.RowKit

theorem splitZ_unique {m k : Nat} (hk : ∃ j, k = 2 ^ j) (h1 : k < m) (h2 : m ≤ 2 * k) (h3 : m ≤ 9223372036854775807) : splitZ m = k := by
  have hs := splitZ_spec (n := m) (by obtain ⟨j, rfl⟩ := hk; have := Nat.one_le_two_pow (n := j); omega) h3
  obtain ⟨a, ha⟩ : ∃ a, splitZ m = 2 ^ a := ⟨_, rfl⟩
  obtain ⟨j, hj⟩ := hk
  rcases Nat.lt_trichotomy a j with h | h | h
  · have := Nat.pow_le_pow_right (n := 2) (by decide) (show a + 1 ≤ j by omega)
    rw [Nat.pow_succ] at this; omega
  · rw [ha, hj, h]
  · have := Nat.pow_le_pow_right (n := 2) (by decide) (show j + 1 ≤ a by omega)
    rw [Nat.pow_succ] at this; omega

theorem splitZ_le {n j : Nat} (h : 2 ≤ n) (h3 : n ≤ 9223372036854775807) (hj : n ≤ 2 ^ (j + 1)) : splitZ n ≤ 2 ^ j := by
  have hs := splitZ_spec h h3
  obtain ⟨a, ha⟩ : ∃ a, splitZ n = 2 ^ a := ⟨_, rfl⟩
  rcases Nat.lt_or_ge j a with h' | h'
  · have := Nat.pow_le_pow_right (n := 2) (by decide) (show j + 1 ≤ a by omega)
    omega
  · rw [ha]; exact Nat.pow_le_pow_right (by decide) h'

theorem path_accept : ∀ (N : Nat) (l : List ByteArray) (i : Nat), l.length ≤ N → i < l.length → l.length ≤ 9223372036854775807 → climbR (leafZ (l.getD i ⟨#[]⟩)) (pathZ l i).reverse l.length i = (rootZ l, true) := by
  intro N
  induction N with
  | zero => intro l i h1 h2; omega
  | succ N ih =>
    intro l i h1 h2 h3
    by_cases h : l.length = 1
    · obtain ⟨x, rfl⟩ := List.length_eq_one_iff.1 h
      obtain rfl : i = 0 := by simpa using h2
      rw [pathZ_one rfl, rootZ_one]; rfl
    · have hs := splitZ_spec (n := l.length) (by omega) h3
      by_cases hik : i < splitZ l.length
      · rw [pathZ_lo (by omega) h3 hik, List.reverse_append, List.reverse_singleton, List.singleton_append, climbR_lo _ _ _ h hik]
        have hl : (l.take (splitZ l.length)).length = splitZ l.length := by rw [List.length_take]; omega
        have := ih (l.take (splitZ l.length)) i (by omega) (by omega) (by omega)
        rw [hl] at this
        rw [show (l.take (splitZ l.length)).getD i ⟨#[]⟩ = l.getD i ⟨#[]⟩ by
          rw [List.getD_eq_getElem?_getD, List.getD_eq_getElem?_getD, List.getElem?_take_of_lt hik]] at this
        rw [this, rootZ_two (by omega) h3]
      · rw [pathZ_hi (by omega) h3 hik, List.reverse_append, List.reverse_singleton, List.singleton_append, climbR_hi _ _ _ h hik]
        have hl : (l.drop (splitZ l.length)).length = l.length - splitZ l.length := by rw [List.length_drop]
        have := ih (l.drop (splitZ l.length)) (i - splitZ l.length) (by omega) (by omega) (by omega)
        rw [hl] at this
        rw [show (l.drop (splitZ l.length)).getD (i - splitZ l.length) ⟨#[]⟩ = l.getD i ⟨#[]⟩ by
          rw [List.getD_eq_getElem?_getD, List.getD_eq_getElem?_getD, List.getElem?_drop, show splitZ l.length + (i - splitZ l.length) = i by omega]] at this
        rw [this, rootZ_two (by omega) h3]

theorem climb_len : ∀ (p q : List ByteArray) (n i : Nat) (x y : ByteArray), (climbR x p n i).2 = true → (climbR y q n i).2 = true → p.length = q.length
  | [], [], _, _, _, _, _, _ => rfl
  | [], b :: q, n, i, x, y, h1, h2 => by
    rw [climbR_nil] at h1
    by_cases h : n = 1
    · subst h; rw [climbR_one] at h2; cases h2
    · rw [if_neg h] at h1; cases h1
  | a :: p, [], n, i, x, y, h1, h2 => by
    rw [climbR_nil] at h2
    by_cases h : n = 1
    · subst h; rw [climbR_one] at h1; cases h1
    · rw [if_neg h] at h2; cases h2
  | a :: p, b :: q, n, i, x, y, h1, h2 => by
    by_cases h : n = 1
    · subst h; rw [climbR_one] at h1; cases h1
    · by_cases hik : i < splitZ n
      · rw [climbR_lo _ _ _ h hik] at h1 h2
        rw [List.length_cons, List.length_cons, climb_len p q _ _ _ _ h1 h2]
      · rw [climbR_hi _ _ _ h hik] at h1 h2
        rw [List.length_cons, List.length_cons, climb_len p q _ _ _ _ h1 h2]

theorem path_short : ∀ (j : Nat) (l : List ByteArray) (i : Nat), l.length ≤ 2 ^ j → i < l.length → l.length ≤ 9223372036854775807 → (pathZ l i).length ≤ j := by
  intro j
  induction j with
  | zero =>
    intro l i h1 h2 h3
    rw [pathZ_one (by simp at h1; omega)]; simp
  | succ j ih =>
    intro l i h1 h2 h3
    by_cases h : l.length = 1
    · rw [pathZ_one h]; simp
    · have hs := splitZ_spec (n := l.length) (by omega) h3
      have hk := splitZ_le (n := l.length) (by omega) h3 h1
      by_cases hik : i < splitZ l.length
      · rw [pathZ_lo (by omega) h3 hik, List.length_append, List.length_singleton]
        have := ih (l.take (splitZ l.length)) i (by rw [List.length_take]; omega) (by rw [List.length_take]; omega) (by rw [List.length_take]; omega)
        omega
      · rw [pathZ_hi (by omega) h3 hik, List.length_append, List.length_singleton]
        have := ih (l.drop (splitZ l.length)) (i - splitZ l.length) (by rw [List.length_drop]; omega) (by rw [List.length_drop]; omega) (by rw [List.length_drop]; omega)
        omega

theorem joinR_all' {old : ByteArray} {p : List ByteArray} {n : Nat} (h : p = []) : joinR old p n n true = (old, old, true) := by subst h; rw [joinR_all]; rfl

theorem part_accept : ∀ (N : Nat) (l : List ByteArray) (m : Nat) (whole : Bool) (old : ByteArray), l.length ≤ N → 1 ≤ m → m ≤ l.length → l.length ≤ 9223372036854775807 → (whole = true → old = rootZ (l.take m)) →
    joinR old (partZ l m whole).reverse m l.length whole = (rootZ (l.take m), rootZ l, true) := by
  intro N
  induction N with
  | zero => intro l m whole old h1 h2 h3; omega
  | succ N ih =>
    intro l m whole old h1 h2 h3 h4 ho
    by_cases hm : m = l.length
    · rw [partZ_all hm]
      cases whole with
      | true =>
        rw [if_pos rfl, hm, ho rfl, hm, List.take_length, List.reverse_nil, joinR_all]; rfl
      | false =>
        rw [if_neg (by simp), List.reverse_singleton, hm, List.take_length]
        rw [joinR, if_neg (by simp), if_pos rfl]; rfl
    · have hs := splitZ_spec (n := l.length) (by omega) h4
      by_cases hk : m ≤ splitZ l.length
      · rw [partZ_lo hm (by omega) h4 hk, List.reverse_append, List.reverse_singleton, List.singleton_append]
        have hl : (l.take (splitZ l.length)).length = splitZ l.length := by rw [List.length_take]; omega
        have ht : (l.take (splitZ l.length)).take m = l.take m := by rw [List.take_take, Nat.min_eq_left hk]
        have := ih (l.take (splitZ l.length)) m whole old (by omega) h2 (by omega) (by omega) (by rw [ht]; exact ho)
        rw [hl, ht] at this
        rw [joinR, if_neg (fun e => hm e.1), if_neg hm, if_pos hk, this, rootZ_two (l := l) (by omega) h4]
      · rw [partZ_hi hm (by omega) h4 hk, List.reverse_append, List.reverse_singleton, List.singleton_append]
        have hl : (l.drop (splitZ l.length)).length = l.length - splitZ l.length := by rw [List.length_drop]
        have := ih (l.drop (splitZ l.length)) (m - splitZ l.length) false old (by omega) (by omega) (by omega) (by omega) (fun h => by cases h)
        rw [hl] at this
        rw [joinR, if_neg (fun e => hm e.1), if_neg hm, if_neg hk, this, rootZ_two (l := l) (by omega) h4]
        have hlm : (l.take m).length = m := by rw [List.length_take]; omega
        have hsm : splitZ (l.take m).length = splitZ l.length := by rw [hlm]; exact splitZ_unique ⟨_, rfl⟩ (by omega) (by omega) (by omega)
        rw [rootZ_two (l := l.take m) (by omega) (by omega), hsm, List.take_take, Nat.min_eq_left (by omega), List.drop_take]

theorem part_short : ∀ (j : Nat) (l : List ByteArray) (m : Nat) (whole : Bool), l.length ≤ 2 ^ j → 1 ≤ m → m ≤ l.length → l.length ≤ 9223372036854775807 → (partZ l m whole).length ≤ j + 1 := by
  intro j
  induction j with
  | zero =>
    intro l m whole h1 h2 h3 h4
    have : l.length ≤ 1 := by simpa using h1
    rw [partZ_all (by omega)]; split <;> simp
  | succ j ih =>
    intro l m whole h1 h2 h3 h4
    by_cases hm : m = l.length
    · rw [partZ_all hm]; split <;> simp
    · have hs := splitZ_spec (n := l.length) (by omega) h4
      have hk := splitZ_le (n := l.length) (by omega) h4 h1
      by_cases hik : m ≤ splitZ l.length
      · rw [partZ_lo hm (by omega) h4 hik, List.length_append, List.length_singleton]
        have := ih (l.take (splitZ l.length)) m whole (by rw [List.length_take]; omega) h2 (by rw [List.length_take]; omega) (by rw [List.length_take]; omega)
        omega
      · rw [partZ_hi hm (by omega) h4 hik, List.length_append, List.length_singleton]
        have := ih (l.drop (splitZ l.length)) (m - splitZ l.length) false (by rw [List.length_drop]; omega) (by omega) (by rw [List.length_drop]; omega) (by rw [List.length_drop]; omega)
        omega

theorem part_size (N : Nat) : ∀ (l : List ByteArray) (m : Nat) (whole : Bool), l.length ≤ N → ∀ x ∈ partZ l m whole, x.size = 32 := by
  induction N with
  | zero =>
    intro l m whole h x hx
    rw [partZ] at hx
    split at hx
    · split at hx
      · cases hx
      · simp only [List.mem_cons, List.not_mem_nil, or_false] at hx; subst hx; exact rootZ_size _
    · rw [dif_neg (by omega)] at hx; cases hx
  | succ N ih =>
    intro l m whole h x hx
    rw [partZ] at hx
    split at hx
    · split at hx
      · cases hx
      · simp only [List.mem_cons, List.not_mem_nil, or_false] at hx; subst hx; exact rootZ_size _
    · by_cases h2 : 2 ≤ l.length ∧ l.length ≤ 9223372036854775807
      · have hs := splitZ_spec h2.1 h2.2
        rw [dif_pos h2] at hx
        split at hx
        · rcases List.mem_append.1 hx with hx | hx
          · exact ih _ _ _ (by rw [List.length_take]; omega) x hx
          · simp only [List.mem_cons, List.not_mem_nil, or_false] at hx; subst hx; exact rootZ_size _
        · rcases List.mem_append.1 hx with hx | hx
          · exact ih _ _ _ (by rw [List.length_drop]; omega) x hx
          · simp only [List.mem_cons, List.not_mem_nil, or_false] at hx; subst hx; exact rootZ_size _
      · rw [dif_neg h2] at hx; cases hx

theorem path_size (N : Nat) : ∀ (l : List ByteArray) (i : Nat), l.length ≤ N → ∀ x ∈ pathZ l i, x.size = 32 := by
  induction N with
  | zero => intro l i h x hx; rw [pathZ, dif_neg (by omega)] at hx; cases hx
  | succ N ih =>
    intro l i h x hx
    rw [pathZ] at hx
    by_cases h2 : 2 ≤ l.length ∧ l.length ≤ 9223372036854775807
    · have hs := splitZ_spec h2.1 h2.2
      rw [dif_pos h2] at hx
      split at hx
      · rcases List.mem_append.1 hx with hx | hx
        · exact ih _ _ (by rw [List.length_take]; omega) x hx
        · simp only [List.mem_cons, List.not_mem_nil, or_false] at hx; subst hx; exact rootZ_size _
      · rcases List.mem_append.1 hx with hx | hx
        · exact ih _ _ (by rw [List.length_drop]; omega) x hx
        · simp only [List.mem_cons, List.not_mem_nil, or_false] at hx; subst hx; exact rootZ_size _
    · rw [dif_neg h2] at hx; cases hx
end Go.Proofs.YtfgojhhphknjkaaDoor
