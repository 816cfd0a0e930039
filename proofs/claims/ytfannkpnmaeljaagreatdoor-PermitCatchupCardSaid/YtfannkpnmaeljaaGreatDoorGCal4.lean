import Derived.Test.YtfannkpnmaeljaaGreatDoorGCal3
import Derived.Deep.RegionHeld3
import Derived.StillTailTactics
import Derived.Test.YtfannkpnmaeljaaGreatDoorLawKit
import Derived.Lib.SmallJoins
import Derived.Test.YtfannkpnmaeljaaGreatDoorGCal1
import Derived.Deep.SlicePairs
set_option linter.unusedVariables false
set_option linter.unusedSimpArgs false
/- What Spans returns, on plain numbers. -/
namespace Go.Proofs.YtfannkpnmaeljaaGreatDoor.Cal
open Go.RowKit

def inL (l : List (Int × Int)) (y : Int) : Bool := l.any fun x => decide (x.1 ≤ y) && decide (y < x.2)
theorem inL_append (l m : List (Int × Int)) (y : Int) : inL (l ++ m) y = (inL l y || inL m y) := by simp [inL]
theorem inL_iff {l : List (Int × Int)} {y : Int} : inL l y = true ↔ ∃ x ∈ l, x.1 ≤ y ∧ y < x.2 := by simp [inL]
/-- Separate spans in their order, from F on, up to e. -/
def Good (F e : Int) (l : List (Int × Int)) : Prop := l.Pairwise (fun x y => x.2 < y.1) ∧ ∀ x ∈ l, F ≤ x.1 ∧ x.1 < x.2 ∧ x.2 ≤ e
theorem Good.mono {F e e' : Int} {l : List (Int × Int)} (h : Good F e l) (he : e ≤ e') : Good F e' l := ⟨h.1, fun x hx => by have := h.2 x hx; omega⟩

theorem add_good {F b e : Int} {l : List (Int × Int)} (h : Good F b l) (hF : F ≤ b) (hbe : b < e) : Good F e (addZ l b e) ∧ ∀ y, inL (addZ l b e) y = (inL l y || (decide (b ≤ y) && decide (y < e))) := by
  have hne : ¬ e ≤ b := by omega
  rcases List.eq_nil_or_concat l with rfl | ⟨l0, x, rfl⟩
  · rw [addZ_nil hne]
    exact ⟨⟨by simp, by simp; omega⟩, fun y => by simp [inL]⟩
  · obtain ⟨f, t⟩ := x
    rw [List.concat_eq_append] at h ⊢
    obtain ⟨h1, h2⟩ := h
    rw [List.pairwise_append] at h1
    have hl := h2 (f, t) (by simp)
    simp only at hl
    by_cases ht : t = b
    · subst ht
      rw [addZ_join hne]
      refine ⟨⟨List.pairwise_append.2 ⟨h1.1, by simp, fun x hx y hy => ?_⟩, fun x hx => ?_⟩, fun y => ?_⟩
      · have := h1.2.2 x hx (f, t) (by simp)
        simp at hy; subst hy; exact this
      · rcases List.mem_append.1 hx with hx | hx
        · have := h2 x (by simp [hx]); omega
        · simp at hx; subst hx; simp; omega
      · rw [inL_append, inL_append, Bool.or_assoc]
        congr 1
        simp only [inL, List.any_cons, List.any_nil, Bool.or_false]
        rw [Bool.eq_iff_iff]; simp; omega
    · rw [addZ_far hne ht]
      refine ⟨⟨List.pairwise_append.2 ⟨List.pairwise_append.2 h1, by simp, fun x hx y hy => ?_⟩, fun x hx => ?_⟩, fun y => ?_⟩
      · simp at hy; subst hy
        rcases List.mem_append.1 hx with hx | hx
        · have h3 := h1.2.2 x hx (f, t) (by simp)
          simp only at h3 ⊢; omega
        · simp at hx; subst hx; simp only; omega
      · rcases List.mem_append.1 hx with hx | hx
        · have := h2 x hx; omega
        · simp at hx; subst hx; simp; omega
      · rw [inL_append]
        congr 1
        simp [inL]

/-- The windows of a stretch. -/
theorem win_good {F a o wl bg en : Int} (hF : F ≤ bg) (hbe : bg ≤ en) (hw0 : 1 ≤ wl) (hw1 : wl ≤ 86400) : ∀ (n : Nat) {op : Int} {l : List (Int × Int)}, (en - op).toNat ≤ 86400 * n → (op + o - a) % 86400 = 0 → bg - 86400 < op → Good F (max bg (min op en)) l →
    Good F en (winRun bg en wl l op) ∧ ∀ y, inL (winRun bg en wl l op) y = (inL l y || (decide (bg ≤ y) && decide (op ≤ y) && decide (y < en) && decide ((y + o - a) % 86400 < wl)))
  | 0, op, l, hn, hm, ho, hg => by
    have : ¬ op < en := by omega
    rw [winRun_end this]
    refine ⟨hg.mono (by omega), fun y => ?_⟩
    have : (decide (op ≤ y) && decide (y < en)) = false := by simp; omega
    rw [Bool.eq_iff_iff]; simp; omega
  | n + 1, op, l, hn, hm, ho, hg => by
    by_cases hlt : op < en
    · rw [winRun_go hlt]
      by_cases hb : max op bg < min (op + wl) en
      · obtain ⟨g1, g2⟩ := add_good (hg.mono (show max bg (min op en) ≤ max op bg by omega)) (by omega) hb
        obtain ⟨w1, w2⟩ := win_good (a := a) (o := o) hF hbe hw0 hw1 n (op := op + 86400) (l := addZ l (max op bg) (min (op + wl) en)) (by omega) (by omega) (by omega) (g1.mono (by omega))
        refine ⟨w1, fun y => ?_⟩
        rw [w2, g2, Bool.or_assoc]
        congr 1
        rw [Bool.eq_iff_iff]
        simp
        constructor
        · rintro (h | h)
          · refine ⟨⟨⟨by omega, by omega⟩, by omega⟩, ?_⟩
            have : (y + o - a) % 86400 = y - op := by omega
            omega
          · omega
        · rintro ⟨⟨⟨h1, h2⟩, h3⟩, h4⟩
          by_cases h5 : op + 86400 ≤ y
          · exact .inr ⟨⟨⟨h1, h5⟩, h3⟩, h4⟩
          · have : (y + o - a) % 86400 = y - op := by omega
            exact .inl ⟨by omega, by omega⟩
      · rw [addZ_no (by omega)]
        obtain ⟨w1, w2⟩ := win_good (a := a) (o := o) hF hbe hw0 hw1 n (op := op + 86400) (l := l) (by omega) (by omega) (by omega) (hg.mono (by omega))
        refine ⟨w1, fun y => ?_⟩
        rw [w2]
        congr 1
        rw [Bool.eq_iff_iff]
        simp only [Bool.and_eq_true, decide_eq_true_eq]
        constructor
        · rintro ⟨⟨⟨h1, h2⟩, h3⟩, h4⟩
          exact ⟨⟨⟨h1, by omega⟩, h3⟩, h4⟩
        · rintro ⟨⟨⟨h1, h2⟩, h3⟩, h4⟩
          by_cases h5 : op + 86400 ≤ y
          · exact ⟨⟨⟨h1, h5⟩, h3⟩, h4⟩
          · have : (y + o - a) % 86400 = y - op := by omega
            omega
    · rw [winRun_end hlt]
      refine ⟨hg.mono (by omega), fun y => ?_⟩
      have : (decide (op ≤ y) && decide (y < en)) = false := by simp; omega
      rw [Bool.eq_iff_iff]; simp; omega

theorem span_good {F To a wl : Int} (hFT : F ≤ To) (hT : To ≤ 10000000001) (hw0 : 1 ≤ wl) (hw1 : wl ≤ 86400) : ∀ {sh : List (Int × Int)} {f o lo : Int} {l : List (Int × Int)}, ascZ lo sh = true → f ≤ lo + 1 → f ≤ 10000000001 → (∀ x ∈ l, x.2 ≤ To) → Good F (max f F) l →
    Good F To (spanRun F To a wl l (strs f o sh)) ∧ ∀ y, F ≤ y → y < To → inL (spanRun F To a wl l (strs f o sh)) y = (inL l y || (decide (f ≤ y) && decide ((y + offL y o sh - a) % 86400 < wl)))
  | [], f, o, lo, l, _, _, hf, hl, hg => by
    unfold strs spanRun
    by_cases h1 : (10000000001 : Int) ≤ F
    · rw [if_pos h1]
      unfold spanRun
      exact ⟨⟨hg.1, fun x hx => by have := hg.2 x hx; have := hl x hx; omega⟩, fun y h2 h3 => by omega⟩
    · rw [if_neg h1]
      by_cases h2 : To ≤ f
      · rw [if_pos h2]
        refine ⟨⟨hg.1, fun x hx => by have := hg.2 x hx; have := hl x hx; omega⟩, fun y h3 h4 => ?_⟩
        rw [Bool.eq_iff_iff]; simp; omega
      · rw [if_neg h2]
        unfold spanRun
        dsimp only
        obtain ⟨w1, w2⟩ := win_good (F := F) (a := a) (o := o) (wl := wl) (bg := max f F) (en := min 10000000001 To) (by omega) (by omega) hw0 hw1 ((min 10000000001 To - (max f F - (max f F + o - a) % 86400)).toNat) (op := max f F - (max f F + o - a) % 86400) (l := l) (by omega) (by omega) (by omega) (hg.mono (by omega))
        refine ⟨w1.mono (by omega), fun y h3 h4 => ?_⟩
        rw [w2]
        unfold offL
        congr 1
        rw [Bool.eq_iff_iff]; simp; omega
  | (x, p) :: r, f, o, lo, l, ha, hlo, hf, hl, hg => by
    simp only [ascZ, Bool.and_eq_true, decide_eq_true_eq] at ha
    have hx := okSec_iff.1 ha.1.1.2
    unfold strs spanRun
    dsimp only
    have hoff : ∀ y, offL y o ((x, p) :: r) = if x ≤ y then offL y p r else o := fun y => rfl
    by_cases h1 : x ≤ F
    · rw [if_pos h1]
      obtain ⟨s1, s2⟩ := span_good hFT hT hw0 hw1 (o := p) ha.2 (show x ≤ x + 1 by omega) (by omega) hl (hg.mono (show max f F ≤ max x F by omega))
      refine ⟨s1, fun y h3 h4 => ?_⟩
      rw [s2 y h3 h4, hoff, if_pos (by omega)]
      congr 1
      rw [Bool.eq_iff_iff]; simp; omega
    · rw [if_neg h1]
      by_cases h2 : To ≤ f
      · rw [if_pos h2]
        refine ⟨⟨hg.1, fun z hz => by have := hg.2 z hz; have := hl z hz; omega⟩, fun y h3 h4 => ?_⟩
        rw [Bool.eq_iff_iff]; simp; omega
      · rw [if_neg h2]
        obtain ⟨w1, w2⟩ := win_good (F := F) (a := a) (o := o) (wl := wl) (bg := max f F) (en := min x To) (by omega) (by omega) hw0 hw1 ((min x To - (max f F - (max f F + o - a) % 86400)).toNat) (op := max f F - (max f F + o - a) % 86400) (l := l) (by omega) (by omega) (by omega) (hg.mono (by omega))
        obtain ⟨s1, s2⟩ := span_good hFT hT hw0 hw1 (o := p) ha.2 (show x ≤ x + 1 by omega) (by omega) (fun z hz => by have := w1.2 z hz; omega) (w1.mono (show min x To ≤ max x F by omega))
        refine ⟨s1, fun y h3 h4 => ?_⟩
        rw [s2 y h3 h4, w2, Bool.or_assoc, hoff]
        congr 1
        by_cases hxy : x ≤ y
        · rw [if_pos hxy]
          rw [Bool.eq_iff_iff]; simp; omega
        · rw [if_neg hxy]
          rw [Bool.eq_iff_iff]; simp; omega

/-! ### Totals -/
def cntZ (p : Int → Bool) (F : Int) : Nat → Int
  | 0 => 0
  | n + 1 => cntZ p F n + if p (F + n) then 1 else 0
theorem cnt_congr {p q : Int → Bool} {F : Int} : ∀ {n : Nat}, (∀ y, F ≤ y → y < F + n → p y = q y) → cntZ p F n = cntZ q F n
  | 0, _ => rfl
  | n + 1, h => by unfold cntZ; rw [cnt_congr (n := n) (fun y h1 h2 => h y h1 (by omega)), h (F + n) (by omega) (by omega)]
theorem cnt_not {p q : Int → Bool} {F : Int} : ∀ {n : Nat}, (∀ y, F ≤ y → y < F + n → q y = !p y) → cntZ p F n + cntZ q F n = n
  | 0, _ => rfl
  | n + 1, h => by
    have := cnt_not (n := n) (fun y h1 h2 => h y h1 (by omega))
    unfold cntZ
    rw [h (F + n) (by omega) (by omega)]
    cases p (F + n) <;> simp <;> omega
theorem cnt_all {p : Int → Bool} {F : Int} : ∀ {n : Nat}, (∀ y, F ≤ y → y < F + n → p y = true) → cntZ p F n = n
  | 0, _ => rfl
  | n + 1, h => by unfold cntZ; rw [cnt_all (n := n) (fun y h1 h2 => h y h1 (by omega)), h (F + n) (by omega) (by omega)]; simp
theorem cnt_or {p q : Int → Bool} {F : Int} : ∀ {n : Nat}, (∀ y, ¬ (p y = true ∧ q y = true)) → cntZ (fun y => p y || q y) F n = cntZ p F n + cntZ q F n
  | 0, _ => rfl
  | n + 1, h => by
    unfold cntZ
    rw [cnt_or (n := n) h]
    have := h (F + n)
    cases hp : p (F + n) <;> cases hq : q (F + n) <;> simp_all <;> omega
theorem cnt_span {b e F : Int} : ∀ {n : Nat}, cntZ (fun y => decide (b ≤ y) && decide (y < e)) F n = max 0 (min e (F + n) - max b F)
  | 0 => by unfold cntZ; omega
  | n + 1 => by
    unfold cntZ
    rw [cnt_span (n := n)]
    by_cases h : b ≤ F + n ∧ F + n < e
    · simp [h.1, h.2]; omega
    · have : (decide (b ≤ F + n) && decide (F + n < e)) = false := by simp; omega
      rw [this]; simp; omega
def totZ : List (Int × Int) → Int
  | [] => 0
  | x :: r => (x.2 - x.1) + totZ r
theorem tot_cnt {F : Int} {n : Nat} : ∀ {l : List (Int × Int)}, Good F (F + n) l → totZ l = cntZ (inL l) F n
  | [], _ => by
    unfold totZ
    have : ∀ n : Nat, cntZ (inL []) F n = 0 := fun n => by
      induction n with
      | zero => rfl
      | succ n ih => unfold cntZ; rw [ih]; simp [inL]
    rw [this]
  | x :: r, h => by
    have hx := h.2 x (by simp)
    have hp := List.pairwise_cons.1 h.1
    have hr : Good F (F + n) r := ⟨hp.2, fun y hy => h.2 y (by simp [hy])⟩
    unfold totZ
    rw [tot_cnt hr]
    have e : inL (x :: r) = fun y => (decide (x.1 ≤ y) && decide (y < x.2)) || inL r y := by funext y; simp [inL]
    rw [e, cnt_or, cnt_span]
    · omega
    · rintro y ⟨h1, h2⟩
      simp at h1
      obtain ⟨z, hz, h3, h4⟩ := inL_iff.1 h2
      have := hp.1 z hz
      omega
end Go.Proofs.YtfannkpnmaeljaaGreatDoor.Cal

/- CalendarInverse. -/
namespace Go.Proofs.YtfannkpnmaeljaaGreatDoor.Cal
open Go.RowKit

theorem keepZ {W W' W'' : World} {B g i n : Nat} {x y : Int} {v : Value} (hS : W'.cell? ⟨B, 0, none⟩ = some (iv x) ∧ W'.cell? ⟨B, 1, none⟩ = some v ∧ W'.cell? ⟨g, i, none⟩ = some (iv y) ∧ Below n W W') (hB : B < W.heap.size) (hg : g < W.heap.size) (hn : n ≤ W.heap.size) (b : Below W'.heap.size W' W'') :
    W''.cell? ⟨B, 0, none⟩ = some (iv x) ∧ W''.cell? ⟨B, 1, none⟩ = some v ∧ W''.cell? ⟨g, i, none⟩ = some (iv y) ∧ Below n W W'' := by
  have hs := hS.2.2.2.size
  exact ⟨(b.cell (p := ⟨B, 0, none⟩) (by simp; omega)).trans hS.1, (b.cell (p := ⟨B, 1, none⟩) (by simp; omega)).trans hS.2.1, (b.cell (p := ⟨g, i, none⟩) (by simp; omega)).trans hS.2.2.1, hS.2.2.2.trans (b.mono (by omega))⟩

theorem keepV {W W' W'' : World} {B n : Nat} {x : Int} {v : Value} (hS : W'.cell? ⟨B, 0, none⟩ = some (iv x) ∧ W'.cell? ⟨B, 1, none⟩ = some v ∧ Below n W W') (hB : B < W.heap.size) (hn : n ≤ W.heap.size) (b : Below W'.heap.size W' W'') :
    W''.cell? ⟨B, 0, none⟩ = some (iv x) ∧ W''.cell? ⟨B, 1, none⟩ = some v ∧ Below n W W'' := by
  have hs := hS.2.2.size
  exact ⟨(b.cell (p := ⟨B, 0, none⟩) (by simp; omega)).trans hS.1, (b.cell (p := ⟨B, 1, none⟩) (by simp; omega)).trans hS.2.1, hS.2.2.trans (b.mono (by omega))⟩
theorem inv3 {w2 w5 W : World} {P Q : Prop} (h : P ∧ Q ∧ Below w5.heap.size w5 W) (b : Below w2.heap.size w2 w5) : Below w2.heap.size w2 W := bthen b h.2.2
theorem inv4 {w2 w5 W : World} {P Q R : Prop} (h : P ∧ Q ∧ R ∧ Below w5.heap.size w5 W) (b : Below w2.heap.size w2 w5) : Below w2.heap.size w2 W := bthen b h.2.2.2
theorem pquiet {P : Program} {f : FuncId} {args : Array Value} {v : Value} {W : World} (h : Calls P f args W fun e w' => e = .returned v ∧ W = w') : Calls P f args W fun e w' => e = .returned v ∧ w' = W := h.mono fun _ _ ⟨a, b⟩ => ⟨a, b.symm⟩

def hasZ (s : Int) (l : List Int) (k : Nat) : Bool := (l.take k).any (· == s)
theorem hasZ_succ {s : Int} {l : List Int} {k : Nat} (h : k < l.length) : hasZ s l (k + 1) = (hasZ s l k || (l.getD k 0 == s)) := by
  unfold hasZ
  rw [List.take_succ_eq_append_getElem h, List.any_append, List.getD_eq_getElem?_getD, List.getElem?_eq_getElem h]
  simp
theorem hasZ_all {s : Int} {l : List Int} (h : s ∈ l) : hasZ s l l.length = true := by
  unfold hasZ
  rw [List.take_length, List.any_eq_true]
  exact ⟨s, h, by simp⟩

end Go.Proofs.YtfannkpnmaeljaaGreatDoor.Cal

/- CalendarWindows. -/
namespace Go.Proofs.YtfannkpnmaeljaaGreatDoor.Cal
open Go.RowKit

theorem good_take {F e : Int} {l : List (Int × Int)} (h : Good F e l) (i : Nat) : Good F e (l.take i) := ⟨h.1.sublist (List.take_sublist _ _), fun x hx => h.2 x (List.mem_of_mem_take hx)⟩
theorem cnt_bd {p : Int → Bool} {F : Int} : ∀ {n : Nat}, 0 ≤ cntZ p F n ∧ cntZ p F n ≤ n
  | 0 => by unfold cntZ; omega
  | n + 1 => by have := cnt_bd (p := p) (F := F) (n := n); unfold cntZ; split <;> omega
theorem tot_append (l m : List (Int × Int)) : totZ (l ++ m) = totZ l + totZ m := by
  induction l with
  | nil => simp [totZ]
  | cons x r ih => simp only [List.cons_append, totZ, ih]; omega
theorem tot_succ {l : List (Int × Int)} {i : Nat} (h : i < l.length) : totZ (l.take (i + 1)) = totZ (l.take i) + ((l.getD i (0, 0)).2 - (l.getD i (0, 0)).1) := by
  rw [List.take_succ_eq_append_getElem h, tot_append, List.getD_eq_getElem?_getD, List.getElem?_eq_getElem h]
  simp [totZ]
theorem tot_bd {F : Int} {n : Nat} {l : List (Int × Int)} (h : Good F (F + n) l) (i : Nat) : 0 ≤ totZ (l.take i) ∧ totZ (l.take i) ≤ n := by
  rw [tot_cnt (good_take h i)]
  exact cnt_bd
theorem good_get {F e : Int} {l : List (Int × Int)} (h : Good F e l) {i : Nat} (hi : i < l.length) : F ≤ (l.getD i (0, 0)).1 ∧ (l.getD i (0, 0)).1 < (l.getD i (0, 0)).2 ∧ (l.getD i (0, 0)).2 ≤ e := by
  have := h.2 (l.getD i (0, 0)) (by rw [List.getD_eq_getElem?_getD, List.getElem?_eq_getElem hi]; exact List.getElem_mem hi)
  exact this
theorem good_next {F e : Int} {l : List (Int × Int)} (h : Good F e l) {i : Nat} (hi : i + 1 < l.length) : (l.getD i (0, 0)).2 < (l.getD (i + 1) (0, 0)).1 := by
  rw [List.getD_eq_getElem?_getD, List.getD_eq_getElem?_getD, List.getElem?_eq_getElem hi, List.getElem?_eq_getElem (show i < l.length by omega)]
  exact List.pairwise_iff_getElem.1 h.1 i (i + 1) (by omega) hi (by omega)

theorem wins_math {off F a b : Int} {n : Nat} {sh : List (Int × Int)} (hv : validZ off sh = true) (hF : 0 ≤ F) (hn : F + n ≤ 10000000000) (ha0 : 0 ≤ a) (ha1 : a < 86400) (hb0 : 0 ≤ b) (hb1 : b < 86400) (hnl : n ≤ 1000000) :
    ∃ L M, spansZ off sh F (F + n) a b = L ∧ spansZ off sh F (F + n) b a = M ∧ (okSod a && okSod b && validZ off sh && !longZ F (F + n)) = true ∧ (okSod b && okSod a && validZ off sh && !longZ F (F + n)) = true ∧ Good F (F + n) L ∧ Good F (F + n) M ∧
      (a ≠ b → totZ L + totZ M = n) ∧ (a = b → totZ L + totZ M = 2 * n) ∧ ∀ x, F ≤ x → x < F + n → inL L x = withinZ off sh x a b := by
  have hlong : longZ F (F + n) = false := by unfold longZ; simp; omega
  have hc1 : (okSod a && okSod b && validZ off sh && !longZ F (F + n)) = true := by rw [okSod_iff.2 ⟨ha0, ha1⟩, okSod_iff.2 ⟨hb0, hb1⟩, hv, hlong]; rfl
  have hc2 : (okSod b && okSod a && validZ off sh && !longZ F (F + n)) = true := by rw [okSod_iff.2 ⟨ha0, ha1⟩, okSod_iff.2 ⟨hb0, hb1⟩, hv, hlong]; rfl
  have hw1 := winZ_pos a b
  have hw2 := winZ_pos b a
  obtain ⟨g1, g2⟩ := span_good (F := F) (To := F + n) (a := a) (wl := winZ a b) (by omega) (by omega) hw1.1 hw1.2 (o := off) (l := []) (valid_asc hv) (show (0 : Int) ≤ -1 + 1 by omega) (by omega) (by simp) ⟨by simp, by simp⟩
  obtain ⟨k1, k2⟩ := span_good (F := F) (To := F + n) (a := b) (wl := winZ b a) (by omega) (by omega) hw2.1 hw2.2 (o := off) (l := []) (valid_asc hv) (show (0 : Int) ≤ -1 + 1 by omega) (by omega) (by simp) ⟨by simp, by simp⟩
  refine ⟨_, _, rfl, rfl, hc1, hc2, ?_⟩
  unfold spansZ
  rw [if_pos hc1, if_pos hc2]
  generalize spanRun F (F + n) a (winZ a b) [] (strs 0 off sh) = L at *
  generalize spanRun F (F + n) b (winZ b a) [] (strs 0 off sh) = M at *
  refine ⟨g1, k1, fun hne => ?_, fun he => ?_, fun x h1 h2 => ?_⟩
  · rw [tot_cnt g1, tot_cnt k1]
    refine cnt_not fun y h1 h2 => ?_
    rw [g2 y h1 h2, k2 y h1 h2]
    simp only [inL, List.any_nil, Bool.false_or]
    rw [decide_eq_true (show (0 : Int) ≤ y by omega), Bool.true_and, Bool.true_and]
    unfold winZ
    rw [if_neg (by omega), if_neg (by omega), ← Bool.not_eq_eq_eq_not, Bool.eq_iff_iff]
    simp
    omega
  · subst he
    rw [tot_cnt g1, tot_cnt k1, cnt_all (fun y h1 h2 => ?_), cnt_all (fun y h1 h2 => ?_)]
    · omega
    · rw [k2 y h1 h2]
      unfold winZ
      simp [inL]; omega
    · rw [g2 y h1 h2]
      unfold winZ
      simp [inL]; omega
  · rw [g2 x h1 h2]
    unfold withinZ
    rw [okSod_iff.2 ⟨ha0, ha1⟩, okSod_iff.2 ⟨hb0, hb1⟩, hv, okSec_iff.2 ⟨by omega, by omega⟩]
    obtain ⟨d, r, e1, e2, e3, e4, -, -⟩ := local_val (s := x) hv (by omega) (by omega)
    rw [e1]
    simp only [inL, List.any_nil, Bool.false_or, Bool.and_self, Bool.true_and]
    rw [decide_eq_true (show (0 : Int) ≤ x by omega), Bool.true_and, show (x + offL x off sh - a) % 86400 = (r - a) % 86400 by omega]

theorem spAt_own {W : World} {base : Nat} {v : Value} {l : List (Int × Int)} (h : W.ownsRow base 34 2 v l.length (spv l)) : ∃ p cap, v = .slice p l.length cap ∧ l.length ≤ 9223372036854775807 ∧ ShAt W W.heap.size p l := by
  rcases h.2 with ⟨rfl, h0⟩ | ⟨g, cap, cur, rfl, _, _, h1, h2, _⟩
  · refine ⟨none, 0, by rw [h0], by omega, fun i hi => ?_⟩
    rw [h0] at hi; omega
  · refine ⟨_, cap, rfl, by unfold maxLen at h2; omega, fun i hi => ⟨g, 0, rfl, (h.lt g rfl).2, ?_, ?_⟩⟩
    · rw [Nat.zero_add, h.cellAt (i * 2) (by omega)]; exact (spv_get hi).1
    · rw [Nat.zero_add, h.cellAt (i * 2 + 1) (by omega)]; exact (spv_get hi).2

end Go.Proofs.YtfannkpnmaeljaaGreatDoor.Cal

/- The reference's Valid and offset. -/
namespace Go.Proofs.YtfannkpnmaeljaaGreatDoor.Cal
open Go.RowKit

def lastOf (sh : List (Int × Int)) : Nat → Int
  | 0 => -1
  | k + 1 => (sh.getD k (0, 0)).1

set_option maxRecDepth 100000 in
set_option maxHeartbeats 4000000 in
theorem rvalid_any (off : Int) (p : Option Addr) (cap n₀ : Nat) (sh : List (Int × Int)) (w : World) (hn : n₀ ≤ w.heap.size) (hS : ShAt w n₀ p sh) (hlen : sh.length ≤ 1000) :
    Calls Tryz.prog 70 #[.agg #[iv off, .slice p sh.length cap]] w fun e w' => e = .returned (.bool (validZ off sh)) ∧ Below w.heap.size w w' := by
  obtain ⟨V, hV⟩ : ∃ V, validZ off sh = V := ⟨_, rfl⟩
  rw [hV]
  unfold validZ at hV
  have hb : ∀ W0, W0 = w.alloc (.cells #[iv off, .slice p sh.length cap] 26) → Below w.heap.size w W0 ∧ Arr W0 w.heap.size 26 [iv off, .slice p sh.length cap] := fun W0 h => by
    subst h; exact ⟨(Below.refl _ w).alloc (Nat.le_refl _) _, Arr.new w _ [iv off, .slice p sh.length cap]⟩
  by_cases h1 : okOff off = true
  · obtain ⟨o1, o2⟩ := okOff_iff.1 h1
    by_cases h2 : sh.length ≤ 40
    · rw [h1, decide_eq_true h2, Bool.true_and, Bool.true_and] at hV
      have h2' : decide (40 < sh.length) = false := by simp; omega
      have h2'' : decide ((40 : Int) < (sh.length : Int)) = false := by simp; omega
      go_enter Tryz.func70, Tryz.ntmps70
      go_wp2_with fail
      obtain ⟨W0, hW0, b0, z0, ka⟩ := boxZ w off (.slice p sh.length cap)
      rw [hW0]; clear hW0 hb
      have c0 := ka.cell (i := 0) rfl
      have c1 := ka.cell (i := 1) rfl
      have hS0 := hS.below (b0.mono hn)
      have HV := Lib.hid hV; clear hV hS
      have hzl := ka.lt
      go_loopw [3] (fun i wr => ∃ k : Nat, i = .int .i64 k ∧ k ≤ sh.length ∧ V = ascZ (lastOf sh k) (sh.drop k) ∧ Below W0.heap.size W0 wr) (fun i _ => sh.length - (intOf i).toNat)
      case atStart => exact ⟨0, rfl, Nat.zero_le _, HV.out.symm, Below.refl _ _⟩
      case round =>
        obtain ⟨k, rfl, hk, hx, hB⟩ := hrel
        have hs := hB.size
        have kr := ka.below hB hzl
        have c0 := kr.cell (i := 0) rfl
        have c1 := kr.cell (i := 1) rfl
        have hzr : w.heap.size < wr.heap.size := by omega
        have hbF : ∀ o, Below w.heap.size w (wr.alloc o) := fun o => b0.trans ((hB.mono (by omega)).alloc (by omega) _)
        by_cases hlt : k < sh.length
        · rw [ascZ_drop hlt] at hx
          obtain ⟨b, ob, rfl, hb, s0, s1⟩ := (hS0.below (hB.mono (by omega))) k hlt
          have hprev : ∀ k', k = k' + 1 → ∃ x, wr.cell? ⟨b, ob + k' * 2, none⟩ = some (iv x) ∧ lastOf sh k = x := fun k' hk' => by
            subst hk'
            obtain ⟨b', o', e, _, h2, _⟩ := (hS0.below (hB.mono (by omega))) k' (by omega)
            simp only [Option.some.injEq, Addr.mk.injEq, and_true] at e
            obtain ⟨rfl, rfl⟩ := e
            exact ⟨_, h2, rfl⟩
          have hnext : lastOf sh (k + 1) = (sh.getD k (0, 0)).1 := rfl
          obtain ⟨a, ha⟩ : ∃ a, (sh.getD k (0, 0)).1 = a := ⟨_, rfl⟩
          obtain ⟨o, ho⟩ : ∃ a, (sh.getD k (0, 0)).2 = a := ⟨_, rfl⟩
          rw [ha] at s0 hx hnext
          rw [ho] at s1 hx
          have hbr : b < wr.heap.size := by omega
          have HX := Lib.hid hx
          have HP := Lib.hid hprev
          have HN := Lib.hid hnext
          clear hx ha ho hprev hnext
          by_cases q1 : 0 ≤ a ∧ a ≤ 10000000000
          · obtain ⟨q1, q2⟩ := q1
            by_cases q3 : -50400 ≤ o ∧ o ≤ 50400
            · obtain ⟨q3, q4⟩ := q3
              have hsec := okSec_iff.2 ⟨q1, q2⟩
              have hof := okOff_iff.2 ⟨q3, q4⟩
              cases k with
              | zero =>
                have t0 : decide ((0 : Int) < ((0 : Nat) : Int)) = false := by simp
                have hfin : V = ascZ (lastOf sh (0 + 1)) (sh.drop (0 + 1)) := by rw [HX.out, HN.out, hsec, hof, decide_eq_true (show lastOf sh 0 < a by show (-1 : Int) < a; omega)]; simp
                have HF := Lib.hid hfin; clear hfin
                have s0' : wr.cell? ⟨b, ob, none⟩ = some (iv a) := by simpa using s0
                have s1' : wr.cell? ⟨b, ob + 1, none⟩ = some (iv o) := by simpa using s1
                go_wp2_with fail
                go_quiet (fail)
                go_wp2_with fail
                go_roundw
                case rel => exact ⟨0 + 1, by go_num, by omega, HF.out, below_drewN (hB.alloc hs _) nq⟩
                case measure => simp [intOf]; omega
              | succ k =>
                obtain ⟨x, cx, hlx⟩ := HP.out k rfl
                have t0 : decide ((0 : Int) < ((k + 1 : Nat) : Int)) = true := by rw [decide_eq_true_eq]; omega
                have t2 : ((k + 1 : Nat) : Int) - 1 = (k : Int) := by omega
                have t3 : IntKind.i64.wrap (((k + 1 : Nat) : Int) - 1) = (k : Int) := by rw [t2]; exact w64 (by omega) (by omega)
                have t4 : (0 : Int) ≤ (k : Int) := by omega
                have t5 : (k : Int) < (sh.length : Int) := by omega
                have t7 : IntKind.i64.wrap (k : Int) = (k : Int) := w64 (by omega) (by omega)
                have t8 : ((k : Int) + 1) < (sh.length : Int) := by omega
                have t9 : (0 : Int) < ((k : Int) + 1) := by omega
                have t10 : (k : Int) + 1 - 1 = (k : Int) := by omega
                rw [hlx] at HX
                by_cases q5 : x < a
                · have g1 : decide (a ≤ x) = false := by simp; omega
                  have hfin : V = ascZ (lastOf sh (k + 1 + 1)) (sh.drop (k + 1 + 1)) := by rw [HX.out, HN.out, hsec, hof, decide_eq_true q5]; simp
                  have HF := Lib.hid hfin; clear hfin hlx
                  go_wp2_with fail
                  go_quiet (fail)
                  go_wp2_with fail
                  go_roundw
                  case rel => exact ⟨k + 1 + 1, by go_num, by omega, HF.out, below_drewN (hB.alloc hs _) nq⟩
                  case measure => simp [intOf]; omega
                · have g1 : decide (a ≤ x) = true := by simp; omega
                  have hfin : V = false := by rw [HX.out, decide_eq_false q5]; simp
                  have HF := Lib.hid hfin; clear hfin hlx
                  go_wp2_with fail
                  go_quiet (fail)
                  go_wp2_with fail
                  go_ret
                  exact ⟨by rw [HF.out]; rfl, below_drewN (hbF _) nq⟩
            · have hfin : V = false := by
                rw [HX.out, show okOff o = false by rw [← Bool.not_eq_true, okOff_iff]; exact q3]; simp
              have HF := Lib.hid hfin; clear hfin
              rcases (by omega : o < -50400 ∨ (-50400 ≤ o ∧ 50400 < o)) with q3 | ⟨q3, q4⟩
              all_goals
                go_wp2_with fail
                go_ret
                exact ⟨by rw [HF.out]; rfl, hbF _⟩
          · have hfin : V = false := by
              rw [HX.out, show okSec a = false by rw [← Bool.not_eq_true, okSec_iff]; exact q1]; simp
            have HF := Lib.hid hfin; clear hfin
            rcases (by omega : a < 0 ∨ (0 ≤ a ∧ 10000000000 < a)) with q1 | ⟨q1, q2⟩
            all_goals
              go_wp2_with fail
              go_ret
              exact ⟨by rw [HF.out]; rfl, hbF _⟩
        · obtain rfl : k = sh.length := by omega
          rw [List.drop_length] at hx
          have HX := Lib.hid hx; clear hx
          go_wp2_with fail
          go_ret
          exact ⟨by rw [HX.out]; rfl, b0.trans (hB.mono (by omega))⟩
    · rw [h1, decide_eq_false h2, Bool.true_and, Bool.false_and] at hV
      subst hV
      have h2' : decide (40 < sh.length) = true := by simp; omega
      have h2'' : decide ((40 : Int) < (sh.length : Int)) = true := by simp; omega
      go_enter Tryz.func70, Tryz.ntmps70
      go_wp2_with fail
      go_ret
      exact ⟨rfl, (hb _ rfl).1⟩
  · rw [Bool.not_eq_true] at h1
    rw [h1, Bool.false_and, Bool.false_and] at hV
    subst hV
    have h3 : ¬ (-50400 ≤ off ∧ off ≤ 50400) := fun h => by rw [okOff_iff.2 h] at h1; cases h1
    rcases (by omega : off < -50400 ∨ (-50400 ≤ off ∧ 50400 < off)) with q3 | ⟨q3, q4⟩
    all_goals
      go_enter Tryz.func70, Tryz.ntmps70
      go_wp2_with fail
      go_ret
      exact ⟨rfl, (hb _ rfl).1⟩
end Go.Proofs.YtfannkpnmaeljaaGreatDoor.Cal

/- Two and three numbers, as arguments. -/
namespace Go.Proofs.YtfannkpnmaeljaaGreatDoor.Cal
open Go.ChangeShapes Go.WideShapes Go.ChangeAt Go.WideMaps Go.WideElems Go.RowKit Go.Joins

section
variable {H : Type} {enc : TypeId × Value → H} {w : World} {base b0 : Nat} {spare : Nat → Bool} {held : Bool} {r : Reach}
end
end Go.Proofs.YtfannkpnmaeljaaGreatDoor.Cal

/- A zone that came in. -/
namespace Go.Proofs.YtfannkpnmaeljaaGreatDoor.Cal
open Go.ChangeShapes Go.WideShapes Go.ChangeAt Go.WideMaps Go.WideElems Go.RowKit Go.Joins Go.Deep

theorem pairs_list {P : Nat → Int × Int → Prop} : ∀ n, (∀ i, i < n → ∃ x, P i x) → ∃ l : List (Int × Int), l.length = n ∧ ∀ i, i < n → P i (l.getD i (0, 0))
  | 0, _ => ⟨[], rfl, fun i hi => by omega⟩
  | n + 1, h => by
    obtain ⟨l, hl, hp⟩ := pairs_list n (fun i hi => h i (by omega))
    obtain ⟨x, hx⟩ := h n (by omega)
    refine ⟨l ++ [x], by simp [hl], fun i hi => ?_⟩
    rcases (by omega : i < n ∨ i = n) with g | rfl
    · have := hp i g
      rw [List.getD_eq_getElem?_getD, List.getElem?_append_left (by omega), ← List.getD_eq_getElem?_getD]
      exact this
    · rw [List.getD_eq_getElem?_getD, List.getElem?_append_right (by omega), hl]
      simpa using hx

theorem shAt_take {w : World} {n : Nat} {p : Option Addr} {sh : List (Int × Int)} (h : ShAt w n p sh) (k : Nat) : ShAt w n p (sh.take k) := fun i hi => by
  have hi' : i < k ∧ i < sh.length := by rw [List.length_take] at hi; omega
  have e : (sh.take k).getD i (0, 0) = sh.getD i (0, 0) := by
    rw [List.getD_eq_getElem?_getD, List.getD_eq_getElem?_getD, List.getElem?_take_of_lt hi'.1]
  rw [e]
  exact h i hi'.2

section
variable {H : Type} {enc : TypeId × Value → H} {w : World} {base b0 : Nat} {held : Bool} {r : Reach}
set_option maxRecDepth 100000 in
theorem open_zone {v : Value} {d : DataW H} {ps : List MemPlace} (hval : Value.okWide Tryz.prog w r b0 26 v) (hd : DataW.Trod enc Tryz.prog w base (fun _ => true) held 26 v d ps) :
    ∃ (off : Int) (p : Option Addr) (len cap : Nat) (sh : List (Int × Int)), v = .agg #[.int .i64 off, .slice p len cap] ∧ sh.length = len ∧ len ≤ cap ∧ cap ≤ maxLen ∧ ShAt w w.heap.size p sh := by
  obtain ⟨c0, c1, y0, y1, n, rfl, -, -, h0, h1⟩ := open_agg2 Tryz.underlying26 (by kernel_rfl) (by kernel_rfl) hval hd
  obtain ⟨off, e0, -⟩ := DataW.trod_int Tryz.underlying3 h0
  simp only [List.cons.injEq, and_true] at e0
  subst e0
  rcases open_slice_pairs Tryz.underlying24 Tryz.underlying83 (by kernel_rfl) rfl rfl (by kernel_rfl) (by kernel_rfl) h1 with ⟨e1, -⟩ | ⟨a, len, cap, m, n', V0, V1, D0, D1, P0, P1, e1, -, hl, hm, hmm, -, hc⟩
  · simp only [List.cons.injEq, and_true] at e1
    subst e1
    exact ⟨off, none, 0, 0, [], rfl, rfl, by omega, Nat.zero_le _, fun i hi => by simp at hi⟩
  · simp only [List.cons.injEq, and_true] at e1
    subst e1
    simp only [if_true] at hmm
    obtain ⟨sh, hsl, hsh⟩ := pairs_list (P := fun i x => w.cell? (a.add (i * 2)) = some (iv x.1) ∧ w.cell? (a.add (i * 2 + 1)) = some (iv x.2)) len (fun i hi => by
      obtain ⟨q0, q1, t0, t1⟩ := hc i (by omega)
      obtain ⟨x, e0, -⟩ := DataW.trod_int Tryz.underlying3 t0
      obtain ⟨y, e1, -⟩ := DataW.trod_int Tryz.underlying3 t1
      simp only [List.cons.injEq, and_true] at e0 e1
      exact ⟨(x, y), by rw [q0, e0], by rw [q1, e1]⟩)
    refine ⟨off, some a, len, cap, sh, rfl, hsl, hl, hm, fun i hi => ?_⟩
    obtain ⟨q0, q1⟩ := hsh i (by omega)
    obtain ⟨b, o, spot⟩ := a
    have hspot : spot = none := by simpa [Addr.add] using World.cell?_spot (hsh 0 (by omega)).1
    subst hspot
    rw [add_plain] at q0 q1
    exact ⟨b, o, rfl, cell_lt q0, q0, by rw [Nat.add_assoc]; exact q1⟩
end
end Go.Proofs.YtfannkpnmaeljaaGreatDoor.Cal
