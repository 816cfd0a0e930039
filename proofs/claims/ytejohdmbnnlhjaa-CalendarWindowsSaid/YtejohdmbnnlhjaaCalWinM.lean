/- What Spans returns, on plain numbers. -/
import Derived.Test.YtejohdmbnnlhjaaCalInvM
namespace Go.Proofs.Ytejohdmbnnlhjaa
open Go.RowKit

def inL (l : List (Int × Int)) (y : Int) : Bool := l.any fun x => decide (x.1 ≤ y) && decide (y < x.2)
theorem inL_append (l m : List (Int × Int)) (y : Int) : inL (l ++ m) y = (inL l y || inL m y) := by simp [inL]
theorem inL_iff {l : List (Int × Int)} {y : Int} : inL l y = true ↔ ∃ x ∈ l, x.1 ≤ y ∧ y < x.2 := by simp [inL]
/-- Separate spans in their order, from F on, up to e. -/
def Good (F e : Int) (l : List (Int × Int)) : Prop := l.Pairwise (fun x y => x.2 < y.1) ∧ ∀ x ∈ l, F ≤ x.1 ∧ x.1 < x.2 ∧ x.2 ≤ e
theorem Good.mono {F e e' : Int} {l : List (Int × Int)} (h : Good F e l) (he : e ≤ e') : Good F e' l := ⟨h.1, fun x hx => by have := h.2 x hx; omega⟩

theorem add_good {F b e : Int} {l : List (Int × Int)} (h : Good F b l) (hF : F ≤ b) (hbe : b < e) : Good F e (addZ l b e) ∧ ∀ y, inL (addZ l b e) y = (inL l y || (decide (b ≤ y) && decide (y < e))) := by
  have hne : ¬ e ≤ b := by omega
  rcases List.eq_nil_or_concat l with rfl | ⟨l0, x, rfl⟩
  · rw [addZ_nil hne]
    exact ⟨⟨by simp, by simp; omega⟩, fun y => by simp [inL]⟩
  · obtain ⟨f, t⟩ := x
    rw [List.concat_eq_append] at h ⊢
    obtain ⟨h1, h2⟩ := h
    rw [List.pairwise_append] at h1
    have hl := h2 (f, t) (by simp)
    simp only at hl
    by_cases ht : t = b
    · subst ht
      rw [addZ_join hne]
      refine ⟨⟨List.pairwise_append.2 ⟨h1.1, by simp, fun x hx y hy => ?_⟩, fun x hx => ?_⟩, fun y => ?_⟩
      · have := h1.2.2 x hx (f, t) (by simp)
        simp at hy; subst hy; exact this
      · rcases List.mem_append.1 hx with hx | hx
        · have := h2 x (by simp [hx]); omega
        · simp at hx; subst hx; simp; omega
      · rw [inL_append, inL_append, Bool.or_assoc]
        congr 1
        simp only [inL, List.any_cons, List.any_nil, Bool.or_false]
        rw [Bool.eq_iff_iff]; simp; omega
    · rw [addZ_far hne ht]
      refine ⟨⟨List.pairwise_append.2 ⟨List.pairwise_append.2 h1, by simp, fun x hx y hy => ?_⟩, fun x hx => ?_⟩, fun y => ?_⟩
      · simp at hy; subst hy
        rcases List.mem_append.1 hx with hx | hx
        · have h3 := h1.2.2 x hx (f, t) (by simp)
          simp only at h3 ⊢; omega
        · simp at hx; subst hx; simp only; omega
      · rcases List.mem_append.1 hx with hx | hx
        · have := h2 x hx; omega
        · simp at hx; subst hx; simp; omega
      · rw [inL_append]
        congr 1
        simp [inL]

/-- The windows of a stretch. -/
theorem win_good {F a o wl bg en : Int} (hF : F ≤ bg) (hbe : bg ≤ en) (hw0 : 1 ≤ wl) (hw1 : wl ≤ 86400) : ∀ (n : Nat) {op : Int} {l : List (Int × Int)}, (en - op).toNat ≤ 86400 * n → (op + o - a) % 86400 = 0 → bg - 86400 < op → Good F (max bg (min op en)) l →
    Good F en (winRun bg en wl l op) ∧ ∀ y, inL (winRun bg en wl l op) y = (inL l y || (decide (bg ≤ y) && decide (op ≤ y) && decide (y < en) && decide ((y + o - a) % 86400 < wl)))
  | 0, op, l, hn, hm, ho, hg => by
    have : ¬ op < en := by omega
    rw [winRun_end this]
    refine ⟨hg.mono (by omega), fun y => ?_⟩
    have : (decide (op ≤ y) && decide (y < en)) = false := by simp; omega
    rw [Bool.eq_iff_iff]; simp; omega
  | n + 1, op, l, hn, hm, ho, hg => by
    by_cases hlt : op < en
    · rw [winRun_go hlt]
      by_cases hb : max op bg < min (op + wl) en
      · obtain ⟨g1, g2⟩ := add_good (hg.mono (show max bg (min op en) ≤ max op bg by omega)) (by omega) hb
        obtain ⟨w1, w2⟩ := win_good (a := a) (o := o) hF hbe hw0 hw1 n (op := op + 86400) (l := addZ l (max op bg) (min (op + wl) en)) (by omega) (by omega) (by omega) (g1.mono (by omega))
        refine ⟨w1, fun y => ?_⟩
        rw [w2, g2, Bool.or_assoc]
        congr 1
        rw [Bool.eq_iff_iff]
        simp
        constructor
        · rintro (h | h)
          · refine ⟨⟨⟨by omega, by omega⟩, by omega⟩, ?_⟩
            have : (y + o - a) % 86400 = y - op := by omega
            omega
          · omega
        · rintro ⟨⟨⟨h1, h2⟩, h3⟩, h4⟩
          by_cases h5 : op + 86400 ≤ y
          · exact .inr ⟨⟨⟨h1, h5⟩, h3⟩, h4⟩
          · have : (y + o - a) % 86400 = y - op := by omega
            exact .inl ⟨by omega, by omega⟩
      · rw [addZ_no (by omega)]
        obtain ⟨w1, w2⟩ := win_good (a := a) (o := o) hF hbe hw0 hw1 n (op := op + 86400) (l := l) (by omega) (by omega) (by omega) (hg.mono (by omega))
        refine ⟨w1, fun y => ?_⟩
        rw [w2]
        congr 1
        rw [Bool.eq_iff_iff]
        simp only [Bool.and_eq_true, decide_eq_true_eq]
        constructor
        · rintro ⟨⟨⟨h1, h2⟩, h3⟩, h4⟩
          exact ⟨⟨⟨h1, by omega⟩, h3⟩, h4⟩
        · rintro ⟨⟨⟨h1, h2⟩, h3⟩, h4⟩
          by_cases h5 : op + 86400 ≤ y
          · exact ⟨⟨⟨h1, h5⟩, h3⟩, h4⟩
          · have : (y + o - a) % 86400 = y - op := by omega
            omega
    · rw [winRun_end hlt]
      refine ⟨hg.mono (by omega), fun y => ?_⟩
      have : (decide (op ≤ y) && decide (y < en)) = false := by simp; omega
      rw [Bool.eq_iff_iff]; simp; omega

theorem span_good {F To a wl : Int} (hFT : F ≤ To) (hT : To ≤ 10000000001) (hw0 : 1 ≤ wl) (hw1 : wl ≤ 86400) : ∀ {sh : List (Int × Int)} {f o lo : Int} {l : List (Int × Int)}, ascZ lo sh = true → f ≤ lo + 1 → f ≤ 10000000001 → (∀ x ∈ l, x.2 ≤ To) → Good F (max f F) l →
    Good F To (spanRun F To a wl l (strs f o sh)) ∧ ∀ y, F ≤ y → y < To → inL (spanRun F To a wl l (strs f o sh)) y = (inL l y || (decide (f ≤ y) && decide ((y + offL y o sh - a) % 86400 < wl)))
  | [], f, o, lo, l, _, _, hf, hl, hg => by
    unfold strs spanRun
    by_cases h1 : (10000000001 : Int) ≤ F
    · rw [if_pos h1]
      unfold spanRun
      exact ⟨⟨hg.1, fun x hx => by have := hg.2 x hx; have := hl x hx; omega⟩, fun y h2 h3 => by omega⟩
    · rw [if_neg h1]
      by_cases h2 : To ≤ f
      · rw [if_pos h2]
        refine ⟨⟨hg.1, fun x hx => by have := hg.2 x hx; have := hl x hx; omega⟩, fun y h3 h4 => ?_⟩
        rw [Bool.eq_iff_iff]; simp; omega
      · rw [if_neg h2]
        unfold spanRun
        dsimp only
        obtain ⟨w1, w2⟩ := win_good (F := F) (a := a) (o := o) (wl := wl) (bg := max f F) (en := min 10000000001 To) (by omega) (by omega) hw0 hw1 ((min 10000000001 To - (max f F - (max f F + o - a) % 86400)).toNat) (op := max f F - (max f F + o - a) % 86400) (l := l) (by omega) (by omega) (by omega) (hg.mono (by omega))
        refine ⟨w1.mono (by omega), fun y h3 h4 => ?_⟩
        rw [w2]
        unfold offL
        congr 1
        rw [Bool.eq_iff_iff]; simp; omega
  | (x, p) :: r, f, o, lo, l, ha, hlo, hf, hl, hg => by
    simp only [ascZ, Bool.and_eq_true, decide_eq_true_eq] at ha
    have hx := okSec_iff.1 ha.1.1.2
    unfold strs spanRun
    dsimp only
    have hoff : ∀ y, offL y o ((x, p) :: r) = if x ≤ y then offL y p r else o := fun y => rfl
    by_cases h1 : x ≤ F
    · rw [if_pos h1]
      obtain ⟨s1, s2⟩ := span_good hFT hT hw0 hw1 (o := p) ha.2 (show x ≤ x + 1 by omega) (by omega) hl (hg.mono (show max f F ≤ max x F by omega))
      refine ⟨s1, fun y h3 h4 => ?_⟩
      rw [s2 y h3 h4, hoff, if_pos (by omega)]
      congr 1
      rw [Bool.eq_iff_iff]; simp; omega
    · rw [if_neg h1]
      by_cases h2 : To ≤ f
      · rw [if_pos h2]
        refine ⟨⟨hg.1, fun z hz => by have := hg.2 z hz; have := hl z hz; omega⟩, fun y h3 h4 => ?_⟩
        rw [Bool.eq_iff_iff]; simp; omega
      · rw [if_neg h2]
        obtain ⟨w1, w2⟩ := win_good (F := F) (a := a) (o := o) (wl := wl) (bg := max f F) (en := min x To) (by omega) (by omega) hw0 hw1 ((min x To - (max f F - (max f F + o - a) % 86400)).toNat) (op := max f F - (max f F + o - a) % 86400) (l := l) (by omega) (by omega) (by omega) (hg.mono (by omega))
        obtain ⟨s1, s2⟩ := span_good hFT hT hw0 hw1 (o := p) ha.2 (show x ≤ x + 1 by omega) (by omega) (fun z hz => by have := w1.2 z hz; omega) (w1.mono (show min x To ≤ max x F by omega))
        refine ⟨s1, fun y h3 h4 => ?_⟩
        rw [s2 y h3 h4, w2, Bool.or_assoc, hoff]
        congr 1
        by_cases hxy : x ≤ y
        · rw [if_pos hxy]
          rw [Bool.eq_iff_iff]; simp; omega
        · rw [if_neg hxy]
          rw [Bool.eq_iff_iff]; simp; omega

/-! ### Totals -/
def cntZ (p : Int → Bool) (F : Int) : Nat → Int
  | 0 => 0
  | n + 1 => cntZ p F n + if p (F + n) then 1 else 0
theorem cnt_congr {p q : Int → Bool} {F : Int} : ∀ {n : Nat}, (∀ y, F ≤ y → y < F + n → p y = q y) → cntZ p F n = cntZ q F n
  | 0, _ => rfl
  | n + 1, h => by unfold cntZ; rw [cnt_congr (n := n) (fun y h1 h2 => h y h1 (by omega)), h (F + n) (by omega) (by omega)]
theorem cnt_not {p q : Int → Bool} {F : Int} : ∀ {n : Nat}, (∀ y, F ≤ y → y < F + n → q y = !p y) → cntZ p F n + cntZ q F n = n
  | 0, _ => rfl
  | n + 1, h => by
    have := cnt_not (n := n) (fun y h1 h2 => h y h1 (by omega))
    unfold cntZ
    rw [h (F + n) (by omega) (by omega)]
    cases p (F + n) <;> simp <;> omega
theorem cnt_all {p : Int → Bool} {F : Int} : ∀ {n : Nat}, (∀ y, F ≤ y → y < F + n → p y = true) → cntZ p F n = n
  | 0, _ => rfl
  | n + 1, h => by unfold cntZ; rw [cnt_all (n := n) (fun y h1 h2 => h y h1 (by omega)), h (F + n) (by omega) (by omega)]; simp
theorem cnt_or {p q : Int → Bool} {F : Int} : ∀ {n : Nat}, (∀ y, ¬ (p y = true ∧ q y = true)) → cntZ (fun y => p y || q y) F n = cntZ p F n + cntZ q F n
  | 0, _ => rfl
  | n + 1, h => by
    unfold cntZ
    rw [cnt_or (n := n) h]
    have := h (F + n)
    cases hp : p (F + n) <;> cases hq : q (F + n) <;> simp_all <;> omega
theorem cnt_span {b e F : Int} : ∀ {n : Nat}, cntZ (fun y => decide (b ≤ y) && decide (y < e)) F n = max 0 (min e (F + n) - max b F)
  | 0 => by unfold cntZ; omega
  | n + 1 => by
    unfold cntZ
    rw [cnt_span (n := n)]
    by_cases h : b ≤ F + n ∧ F + n < e
    · simp [h.1, h.2]; omega
    · have : (decide (b ≤ F + n) && decide (F + n < e)) = false := by simp; omega
      rw [this]; simp; omega
def totZ : List (Int × Int) → Int
  | [] => 0
  | x :: r => (x.2 - x.1) + totZ r
theorem tot_cnt {F : Int} {n : Nat} : ∀ {l : List (Int × Int)}, Good F (F + n) l → totZ l = cntZ (inL l) F n
  | [], _ => by
    unfold totZ
    have : ∀ n : Nat, cntZ (inL []) F n = 0 := fun n => by
      induction n with
      | zero => rfl
      | succ n ih => unfold cntZ; rw [ih]; simp [inL]
    rw [this]
  | x :: r, h => by
    have hx := h.2 x (by simp)
    have hp := List.pairwise_cons.1 h.1
    have hr : Good F (F + n) r := ⟨hp.2, fun y hy => h.2 y (by simp [hy])⟩
    unfold totZ
    rw [tot_cnt hr]
    have e : inL (x :: r) = fun y => (decide (x.1 ≤ y) && decide (y < x.2)) || inL r y := by funext y; simp [inL]
    rw [e, cnt_or, cnt_span]
    · omega
    · rintro y ⟨h1, h2⟩
      simp at h1
      obtain ⟨z, hz, h3, h4⟩ := inL_iff.1 h2
      have := hp.1 z hz
      omega
end Go.Proofs.Ytejohdmbnnlhjaa
