/- The reference's Length and At; lists compared; a zone cut short. -/
import Derived.Test.YtejohdmbnnlhjaaCalRefC
namespace Go.Proofs.Ytejohdmbnnlhjaa
open Go.RowKit

theorem sumL_append (g : Str → Int) (l m : List Str) : sumL g (l ++ m) = sumL g l + sumL g m := by
  induction l with
  | nil => simp [sumL]
  | cons x r ih => simp only [List.cons_append, sumL, ih]; omega
theorem take_get {T : List Str} {k : Nat} (h : k < T.length) : T.take (k + 1) = T.take k ++ [T.getD k (0, 0, 0)] := by
  rw [List.take_succ_eq_append_getElem h, List.getD_eq_getElem?_getD, List.getElem?_eq_getElem h]; rfl
theorem get_mem {T : List Str} {k : Nat} (h : k < T.length) : T.getD k (0, 0, 0) ∈ T := by
  rw [List.getD_eq_getElem?_getD, List.getElem?_eq_getElem h]; exact List.getElem_mem h
theorem atRun_append {u : Int} {x : Str} : ∀ {l : List Str} {t : List Int}, atRun u t (l ++ [x]) = if x.1 ≤ u - x.2.2 ∧ u - x.2.2 < x.2.1 then atRun u t l ++ [u - x.2.2] else atRun u t l
  | [], t => by simp [atRun]
  | y :: r, t => by
    rw [List.cons_append]
    unfold atRun
    exact atRun_append
theorem atRun_len {u : Int} : ∀ {l : List Str} {t : List Int}, (atRun u t l).length ≤ t.length + l.length
  | [], t => by simp [atRun]
  | y :: r, t => by
    unfold atRun
    by_cases h : y.1 ≤ u - y.2.2 ∧ u - y.2.2 < y.2.1
    · rw [if_pos h]
      have := atRun_len (u := u) (l := r) (t := t ++ [u - y.2.2])
      simp at this ⊢; omega
    · rw [if_neg h]
      have := atRun_len (u := u) (l := r) (t := t)
      simp at this ⊢; omega

theorem length_late {off d : Int} {sh : List (Int × Int)} (hv : validZ off sh = true) (hd : -1 ≤ d) : lengthZ off sh d = sumL (dayLen d) (strs 0 off sh) := by
  by_cases h : d ≤ 115741
  · exact length_sum hv hd h
  · unfold lengthZ
    rw [show okDay d = false by rw [← Bool.not_eq_true, okDay_iff]; omega, Bool.and_false]
    have hok := (valid_iff hv).2.2
    generalize strs 0 off sh = T at *
    induction T with
    | nil => rfl
    | cons x r ih =>
      unfold sumL
      rw [← ih (fun y hy => hok y (by simp [hy]))]
      have := hok x (by simp)
      unfold StrOk at this
      unfold dayLen
      simp
      omega
theorem at_late {off d s : Int} {sh : List (Int × Int)} (hv : validZ off sh = true) (hd : -1 ≤ d) (hs0 : 0 ≤ s) (hs1 : s < 86400) : atT off sh d s = atRun (d * 86400 + s) [] (strs 0 off sh) := by
  by_cases h : d ≤ 115741
  · unfold atT atZ
    rw [hv, okDay_iff.2 ⟨hd, h⟩, okSod_iff.2 ⟨hs0, hs1⟩]; rfl
  · unfold atT
    rw [show okDay d = false by rw [← Bool.not_eq_true, okDay_iff]; omega, Bool.and_false, Bool.false_and]
    simp only [Bool.false_eq_true, if_false]
    have hok := (valid_iff hv).2.2
    generalize strs 0 off sh = T at *
    induction T with
    | nil => rfl
    | cons x r ih =>
      unfold atRun
      have := hok x (by simp)
      unfold StrOk at this
      rw [if_neg (by omega)]
      exact ih (fun y hy => hok y (by simp [hy]))

set_option maxRecDepth 100000 in
set_option maxHeartbeats 4000000 in
theorem rlength_yes (off d : Int) (p : Option Addr) (cap : Nat) (sh : List (Int × Int)) (w : World) (hS : ShAt w w.heap.size p sh) (hlen : sh.length ≤ 1000) (hv : validZ off sh = true) (hd0 : -1 ≤ d) (hd1 : d ≤ 200000) :
    Calls Try.prog 17 #[.agg #[iv off, .slice p sh.length cap], .int .i64 d] w fun e w' => e = .returned (.int .i64 (lengthZ off sh d)) ∧ Below w.heap.size w w' := by
  have hva := fun W (h : Below w.heap.size w W) => rvalid_any off p cap w.heap.size sh W h.size (hS.below h) hlen
  rw [hv] at hva
  have hst := fun W (h : Below w.heap.size w W) (i : Nat) (hi : i ≤ sh.length) f t o he => rstretch_any off i p cap sh W ((hS.below h).mono h.size) hv hi f t o he
  rw [length_late hv hd0]
  have hok := (valid_iff hv).2.2
  have hl40 := (valid_iff hv).2.1
  obtain ⟨T, hT⟩ : ∃ T, strs 0 off sh = T := ⟨_, rfl⟩
  have hTl : T.length = sh.length + 1 := by rw [← hT, strs_len]
  rw [hT] at hst hok ⊢
  have HST := Lib.hid hst
  have HOK := Lib.hid hok
  have HTL := Lib.hid hTl
  clear hst hok hT hv hS hTl
  go_enter Try.func17, Try.ntmps17
  go_wp2_with fail
  obtain ⟨W0, hW0, b0, z0, ka⟩ := boxZ' w off (.slice p sh.length cap)
  try rw [hW0]
  try clear hW0
  have c0 := ka.cell (i := 0) rfl
  have c1 := ka.cell (i := 1) rfl
  go_wp2_with fail
  refine Calls.mono (hva _ b0) ?_; rintro e w1 ⟨rfl, b1⟩
  have s1 := b1.size
  have b01 := bthen b0 b1
  have ka := ka.below b1 (by omega)
  have kal := ka.lt
  clear hva c0 c1
  go_wp2_with fail
  go_loopw [6, 7] (fun nv iv' wr => ∃ (k : Nat) (n : Int), nv = .int .i64 n ∧ iv' = .int .i64 k ∧ k ≤ sh.length + 1 ∧ n = sumL (dayLen d) (T.take k) ∧ 0 ≤ n ∧ n ≤ 86400 * (k : Int) ∧ Below w1.heap.size w1 wr) (fun _ i _ => sh.length + 1 - (intOf i).toNat)
  case atStart => exact ⟨0, 0, rfl, rfl, by omega, by simp [sumL], by omega, by omega, Below.refl _ _⟩
  case round =>
    obtain ⟨k, n, rfl, rfl, hk, hx, n0, n1, hB⟩ := hrel
    have hs := hB.size
    have kr := ka.below hB kal
    have c0 := kr.cell (i := 0) rfl
    have c1 := kr.cell (i := 1) rfl
    by_cases hlt : k ≤ sh.length
    · have hkT : k < T.length := by rw [HTL.out]; omega
      have hmem := HOK.out _ (get_mem hkT)
      have htk := take_get hkT
      obtain ⟨x, hxx⟩ : ∃ x, T.getD k (0, 0, 0) = x := ⟨_, rfl⟩
      have hcall := fun W hW => HST.out W hW k hlt x.1 x.2.1 x.2.2 hxx
      rw [hxx] at hmem htk
      obtain ⟨f, t, o⟩ := x
      obtain ⟨q1, q2, q3, q4, q5⟩ := hmem
      dsimp only at hcall q1 q2 q3 q4 q5
      have hnew : sumL (dayLen d) (T.take (k + 1)) = n + max 0 (min (d * 86400 - o + 86400) t - max (d * 86400 - o) f) := by
        rw [htk, sumL_append, hx]; simp [sumL, dayLen]
      have HN := Lib.hid hnew
      have hlt' : (k : Int) ≤ (sh.length : Int) := by omega
      have b02 := bthen b01 hB
      clear hnew hx hxx htk
      go_wp2_with fail
      refine Calls.mono (hcall _ b02) ?_; rintro e w2 ⟨rfl, b2⟩
      clear hcall
      go_wp2_with fail
      all_goals
        go_roundw
        case rel => exact ⟨k + 1, _, rfl, by go_num, by omega, by rw [HN.out]; omega, by omega, by omega, bthen hB b2⟩
        case measure => simp [intOf]; omega
    · obtain rfl : k = sh.length + 1 := by omega
      have hall : T.take (sh.length + 1) = T := List.take_of_length_le (by rw [HTL.out]; exact Nat.le_refl _)
      rw [hall] at hx
      have HX := Lib.hid hx
      have hlt' : (sh.length : Int) < (sh.length : Int) + 1 := by omega
      clear hx hall
      go_wp2_with fail
      go_ret
      exact ⟨by rw [← HX.out]; rfl, bthen b01 hB⟩
end Go.Proofs.Ytejohdmbnnlhjaa
