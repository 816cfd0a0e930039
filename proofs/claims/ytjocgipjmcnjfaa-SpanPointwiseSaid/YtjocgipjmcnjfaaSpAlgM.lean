/- The algebra of the lists; what covers; lengths. -/
import Derived.Test.YtjocgipjmcnjfaaSpComb
import Derived.Test.YtjocgipjmcnjfaaSpLawA
import Derived.Test.YtjocgipjmcnjfaaSpQuery2
namespace Go.Proofs.Ytjocgipjmcnjfaa
open Go.RowKit

theorem uni_comm (a b : List (Int × Int)) : uniZ a b = uniZ b a := asc_ext _ _ (uniZ_asc _ _) (uniZ_asc _ _) fun x => by rw [uniZ_has, uniZ_has]; cases hasZ a x <;> cases hasZ b x <;> rfl
theorem int_comm (a b : List (Int × Int)) : intZ a b = intZ b a := asc_ext _ _ (intZ_asc _ _) (intZ_asc _ _) fun x => by rw [intZ_has, intZ_has]; cases hasZ a x <;> cases hasZ b x <;> rfl
theorem uni_assoc (a b c : List (Int × Int)) : uniZ a (uniZ b c) = uniZ (uniZ a b) c := asc_ext _ _ (uniZ_asc _ _) (uniZ_asc _ _) fun x => by simp only [uniZ_has]; cases hasZ a x <;> cases hasZ b x <;> cases hasZ c x <;> rfl
theorem int_assoc (a b c : List (Int × Int)) : intZ a (intZ b c) = intZ (intZ a b) c := asc_ext _ _ (intZ_asc _ _) (intZ_asc _ _) fun x => by simp only [intZ_has]; cases hasZ a x <;> cases hasZ b x <;> cases hasZ c x <;> rfl
theorem uni_self (a : List (Int × Int)) : uniZ a a = nrmZ a := asc_ext _ _ (uniZ_asc _ _) (nrmZ_asc _) fun x => by rw [uniZ_has, nrmZ_has]; cases hasZ a x <;> rfl
theorem int_self (a : List (Int × Int)) : intZ a a = nrmZ a := asc_ext _ _ (intZ_asc _ _) (nrmZ_asc _) fun x => by rw [intZ_has, nrmZ_has]; cases hasZ a x <;> rfl
theorem sub_self (a : List (Int × Int)) : subZ a a = [] := asc_ext _ _ (subZ_asc _ _) Asc.nil fun x => by rw [subZ_has, hasZ_nil]; cases hasZ a x <;> rfl
theorem int_uni (a b c : List (Int × Int)) : intZ a (uniZ b c) = uniZ (intZ a b) (intZ a c) := asc_ext _ _ (intZ_asc _ _) (uniZ_asc _ _) fun x => by simp only [intZ_has, uniZ_has]; cases hasZ a x <;> cases hasZ b x <;> cases hasZ c x <;> rfl
theorem uni_int (a b c : List (Int × Int)) : uniZ a (intZ b c) = intZ (uniZ a b) (uniZ a c) := asc_ext _ _ (uniZ_asc _ _) (intZ_asc _ _) fun x => by simp only [intZ_has, uniZ_has]; cases hasZ a x <;> cases hasZ b x <;> cases hasZ c x <;> rfl
theorem sub_uni (a b c : List (Int × Int)) : subZ a (uniZ b c) = subZ (subZ a b) c := asc_ext _ _ (subZ_asc _ _) (subZ_asc _ _) fun x => by simp only [subZ_has, uniZ_has]; cases hasZ a x <;> cases hasZ b x <;> cases hasZ c x <;> rfl
theorem int_sub (a b : List (Int × Int)) : uniZ (intZ a b) (subZ a b) = nrmZ a := asc_ext _ _ (uniZ_asc _ _) (nrmZ_asc _) fun x => by simp only [uniZ_has, intZ_has, subZ_has, nrmZ_has]; cases hasZ a x <;> cases hasZ b x <;> rfl

theorem combZ_len (f : Bool → Bool → Bool) {a b : List (Int × Int)} (ha : Bd a) (hb : Bd b) : (combZ f a b).length ≤ 2 * (a.length + b.length) := by
  have h0 := comb_len f (allPc (nrmZ a) (nrmZ b)) []
  have h1 := pieces_len 18446744073709551615 _ (nrmZ a) (nrmZ b) (inv_nrm ha) (inv_nrm hb)
  have h2 := mu_le (-9223372036854775808) (nrmZ a)
  have h3 := mu_le (-9223372036854775808) (nrmZ b)
  have h4 := nrm_len a
  have h5 := nrm_len b
  unfold combZ
  have h6 : (allPc (nrmZ a) (nrmZ b)).length ≤ mu (-9223372036854775808) (nrmZ a) + mu (-9223372036854775808) (nrmZ b) := h1
  simp only [List.length_nil, Nat.zero_add] at h0
  omega
theorem uni_len {a b : List (Int × Int)} (ha : Bd a) (hb : Bd b) : (uniZ a b).length ≤ 2 * (a.length + b.length) := comb_or ha hb ▸ combZ_len _ ha hb
theorem int_len {a b : List (Int × Int)} (ha : Bd a) (hb : Bd b) : (intZ a b).length ≤ 2 * (a.length + b.length) := comb_and ha hb ▸ combZ_len _ ha hb
theorem sub_len {a b : List (Int × Int)} (ha : Bd a) (hb : Bd b) : (subZ a b).length ≤ 2 * (a.length + b.length) := comb_sub ha hb ▸ combZ_len _ ha hb

theorem cov_iff (l : List (Int × Int)) (s : Int × Int) : covZ l s = true ↔ ∀ x, s.1 ≤ x → x < s.2 → hasZ l x = true := by
  unfold covZ
  rw [Bool.or_eq_true, decide_eq_true_eq, List.any_eq_true]
  constructor
  · rintro (h | ⟨t, ht, hc⟩) x h1 h2
    · omega
    · unfold covB at hc
      rw [Bool.and_eq_true, decide_eq_true_eq, decide_eq_true_eq] at hc
      rw [← nrmZ_has]
      exact hasZ_iff.2 ⟨t, ht, by omega, by omega⟩
  · intro h
    by_cases he : s.2 ≤ s.1
    · exact .inl he
    · right
      have h1 := h s.1 (Int.le_refl _) (by omega)
      rw [← nrmZ_has] at h1
      obtain ⟨t, ht, h2, h3⟩ := hasZ_iff.1 h1
      refine ⟨t, ht, ?_⟩
      unfold covB
      rw [Bool.and_eq_true, decide_eq_true_eq, decide_eq_true_eq]
      refine ⟨h2, ?_⟩
      by_cases hc : s.2 ≤ t.2
      · exact hc
      · exfalso
        have h4 := h t.2 (by omega) (by omega)
        rw [← nrmZ_has] at h4
        obtain ⟨u, hu, h5, h6⟩ := hasZ_iff.1 h4
        have hp := (nrmZ_asc l).2
        have hn := (nrmZ_asc l).1
        obtain ⟨i, hi, rfl⟩ := List.getElem_of_mem ht
        obtain ⟨j, hj, rfl⟩ := List.getElem_of_mem hu
        rcases Nat.lt_trichotomy i j with hij | rfl | hij
        · have := List.pairwise_iff_getElem.1 hp i j hi hj hij; omega
        · omega
        · have := List.pairwise_iff_getElem.1 hp j i hj hi hij
          have := hn _ (List.getElem_mem hi)
          omega
theorem has_one (s : Int × Int) (x : Int) : hasZ [s] x = inS s x := by simp [hasZ]
theorem cov_sub (l : List (Int × Int)) (s : Int × Int) : covZ l s = true ↔ subZ [s] l = [] := by
  rw [cov_iff]
  constructor
  · intro h
    refine asc_ext _ _ (subZ_asc _ _) Asc.nil fun x => ?_
    rw [subZ_has, hasZ_nil, has_one]
    cases hi : inS s x with
    | false => rfl
    | true => rw [h x (inS_iff.1 hi).1 (inS_iff.1 hi).2]; rfl
  · intro h x h1 h2
    have := subZ_has [s] l x
    rw [h, hasZ_nil, has_one, inS_iff.2 ⟨h1, h2⟩] at this
    simpa using this.symm
theorem cov_int (l : List (Int × Int)) (s : Int × Int) : covZ l s = true ↔ intZ l [s] = nrmZ [s] := by
  rw [cov_iff]
  constructor
  · intro h
    refine asc_ext _ _ (intZ_asc _ _) (nrmZ_asc _) fun x => ?_
    rw [intZ_has, nrmZ_has, has_one]
    cases hi : inS s x with
    | false => simp
    | true => rw [h x (inS_iff.1 hi).1 (inS_iff.1 hi).2]; rfl
  · intro h x h1 h2
    have := intZ_has l [s] x
    rw [h, nrmZ_has, has_one, inS_iff.2 ⟨h1, h2⟩] at this
    simpa using this.symm

/-- A function of two lists, and of one, by what it returns. -/
def Op2 (F : Nat) (a b r : List (Int × Int)) : Prop := ∀ (W : World) (p q : Option Addr) (cp cq : Nat), ShAt W W.heap.size p a → ShAt W W.heap.size q b → a.length ≤ cp → b.length ≤ cq → Calls Try.prog F #[.slice p a.length cp, .slice q b.length cq] W (Own W r)
def Op1 (F : Nat) (a r : List (Int × Int)) : Prop := ∀ (W : World) (p : Option Addr) (cp : Nat), ShAt W W.heap.size p a → Calls Try.prog F #[.slice p a.length cp] W (Own W r)
def Eq2 (a b : List (Int × Int)) (v : Bool) : Prop := ∀ (W : World) (p q : Option Addr) (cp cq : Nat), ShAt W W.heap.size p a → ShAt W W.heap.size q b → Calls Try.prog 13 #[.slice p a.length cp, .slice q b.length cq] W fun e w' => e = .returned (.bool v) ∧ Below W.heap.size W w'
theorem op_uni {a b r : List (Int × Int)} (h : uniZ a b = r) (la : a.length ≤ 20000) (lb : b.length ≤ 20000) (ha : Bd a) (hb : Bd b) : Op2 22 a b r := fun W p q cp cq hA hB hp hq => h ▸ union_any p q cp cq a b W hA hB la lb hp hq ha hb
theorem op_int {a b r : List (Int × Int)} (h : intZ a b = r) (la : a.length ≤ 20000) (lb : b.length ≤ 20000) (ha : Bd a) (hb : Bd b) : Op2 24 a b r := fun W p q cp cq hA hB hp hq => h ▸ inter_any p q cp cq a b W hA hB la lb hp hq ha hb
theorem op_sub {a b r : List (Int × Int)} (h : subZ a b = r) (la : a.length ≤ 20000) (lb : b.length ≤ 20000) (ha : Bd a) (hb : Bd b) : Op2 26 a b r := fun W p q cp cq hA hB hp hq => h ▸ subtract_any p q cp cq a b W hA hB la lb hp hq ha hb
theorem op_nrm {a r : List (Int × Int)} (h : nrmZ a = r) (la : a.length ≤ 20000) : Op1 14 a r := fun W p cp hA => h ▸ normal_own p cp a W hA (by omega)
theorem op_eq {a b : List (Int × Int)} (la : a.length ≤ 20000) (lb : b.length ≤ 20000) {v : Bool} (h : decide (a = b) = v) : Eq2 a b v := fun W p q cp cq hA hB => h ▸ requal_any p q cp cq a b W hA hB (by omega) (by omega)
theorem few_len (l : List (Int × Int)) : (l.take 30).length ≤ 30 := by rw [List.length_take]; omega
end Go.Proofs.Ytjocgipjmcnjfaa
