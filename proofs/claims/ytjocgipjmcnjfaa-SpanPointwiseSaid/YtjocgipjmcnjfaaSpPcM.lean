/- The pieces of two lists. -/
import Derived.Test.YtjocgipjmcnjfaaSpMath
namespace Go.Proofs.Ytjocgipjmcnjfaa

def lookZ : List (Int × Int) → Int → Bool × Int
  | [], _ => (false, 9223372036854775807)
  | s :: _, x => if x < s.1 then (false, s.1) else (true, s.2)
def dropZ : List (Int × Int) → Int → List (Int × Int)
  | [], _ => []
  | s :: r, x => if s.2 = x then r else s :: r
abbrev Pc := (Int × Int) × Bool × Bool
def piecesZ : Nat → Int → List (Int × Int) → List (Int × Int) → List Pc
  | 0, _, _, _ => []
  | n + 1, bg, ra, rb => if ra = [] ∧ rb = [] then [] else
    ((bg, min (lookZ ra bg).2 (lookZ rb bg).2), (lookZ ra bg).1, (lookZ rb bg).1) :: piecesZ n (min (lookZ ra bg).2 (lookZ rb bg).2) (dropZ ra (min (lookZ ra bg).2 (lookZ rb bg).2)) (dropZ rb (min (lookZ ra bg).2 (lookZ rb bg).2))
def allPc (a b : List (Int × Int)) : List Pc := piecesZ 18446744073709551615 (-9223372036854775808) a b
def Inv (bg : Int) (l : List (Int × Int)) : Prop := Asc l ∧ ∀ s ∈ l, bg < s.2 ∧ s.2 ≤ 9223372036854775807
def mu (bg : Int) : List (Int × Int) → Nat
  | [] => 0
  | s :: r => 2 * (r.length + 1) - (if s.1 ≤ bg then 1 else 0)

theorem look_ok {bg : Int} {l : List (Int × Int)} (h : Inv bg l) (hb : bg < 9223372036854775807) : bg < (lookZ l bg).2 ∧ (lookZ l bg).2 ≤ 9223372036854775807 := by
  cases l with
  | nil => exact ⟨hb, Int.le_refl _⟩
  | cons s r =>
    have h1 := h.2 s (List.mem_cons_self ..)
    have h2 := h.1.1 s (List.mem_cons_self ..)
    by_cases hc : bg < s.1
    · rw [show lookZ (s :: r) bg = (false, s.1) from if_pos hc]; exact ⟨hc, by simp only; omega⟩
    · rw [show lookZ (s :: r) bg = (true, s.2) from if_neg hc]; exact h1
theorem drop_ok {bg en : Int} {l : List (Int × Int)} (h : Inv bg l) (h1 : bg < en) (h2 : en ≤ (lookZ l bg).2) :
    Inv en (dropZ l en) ∧ mu en (dropZ l en) ≤ mu bg l ∧ (l ≠ [] → en = (lookZ l bg).2 → mu en (dropZ l en) < mu bg l) ∧ (∀ x, bg ≤ x → x < en → hasZ l x = (lookZ l bg).1) ∧ (∀ x, en ≤ x → hasZ (dropZ l en) x = hasZ l x) := by
  cases l with
  | nil => exact ⟨⟨Asc.nil, by simp [dropZ]⟩, by simp [dropZ, mu], fun h => absurd rfl h, fun x _ _ => rfl, fun x _ => rfl⟩
  | cons s r =>
    obtain ⟨a1, a2, a3⟩ := asc_cons.1 h.1
    have hs := h.2 s (List.mem_cons_self ..)
    have hr : ∀ t ∈ r, s.2 < t.1 ∧ t.1 < t.2 ∧ t.2 ≤ 9223372036854775807 := fun t ht => ⟨a2 t ht, a3.1 t ht, (h.2 t (List.mem_cons_of_mem _ ht)).2⟩
    have hrno : ∀ x, x ≤ s.2 → hasZ r x = false := fun x hx => hasZ_no.2 fun t ht => by have := hr t ht; omega
    by_cases hc : bg < s.1
    · have e1 : lookZ (s :: r) bg = (false, s.1) := if_pos hc
      rw [e1] at h2 ⊢
      simp only at h2
      have e2 : dropZ (s :: r) en = s :: r := if_neg (by omega)
      rw [e2]
      refine ⟨⟨h.1, fun t ht => ?_⟩, ?_, fun _ he => ?_, fun x _ hx => ?_, fun x _ => rfl⟩
      · rcases List.mem_cons.1 ht with rfl | ht
        · exact ⟨by omega, hs.2⟩
        · have := hr t ht; exact ⟨by omega, this.2.2⟩
      · show 2 * (r.length + 1) - (if s.1 ≤ en then 1 else 0) ≤ 2 * (r.length + 1) - (if s.1 ≤ bg then 1 else 0)
        rw [if_neg (show ¬ s.1 ≤ bg by omega)]; omega
      · simp only at he
        show 2 * (r.length + 1) - (if s.1 ≤ en then 1 else 0) < 2 * (r.length + 1) - (if s.1 ≤ bg then 1 else 0)
        rw [if_neg (show ¬ s.1 ≤ bg by omega), if_pos (show s.1 ≤ en by omega)]; omega
      · rw [hasZ_cons, hrno x (by omega), Bool.or_false, ← Bool.not_eq_true, inS_iff]; omega
    · have e1 : lookZ (s :: r) bg = (true, s.2) := if_neg hc
      rw [e1] at h2 ⊢
      simp only at h2
      have hin : ∀ x, bg ≤ x → x < en → hasZ (s :: r) x = true := fun x hx1 hx2 => by rw [hasZ_cons, inS_iff.2 ⟨by omega, by omega⟩]; rfl
      by_cases he : s.2 = en
      · have e2 : dropZ (s :: r) en = r := if_pos he
        rw [e2]
        have hmu : mu en r < mu bg (s :: r) := by
          show _ < 2 * (r.length + 1) - (if s.1 ≤ bg then 1 else 0)
          rw [if_pos (by omega)]
          cases r with
          | nil => simp [mu]
          | cons t r => show 2 * (r.length + 1) - _ < _; simp; omega
        refine ⟨⟨a3, fun t ht => ?_⟩, by omega, fun _ _ => hmu, hin, fun x hx => ?_⟩
        · have := hr t ht; exact ⟨by omega, this.2.2⟩
        · have hno : inS s x = false := by rw [← Bool.not_eq_true, inS_iff]; omega
          rw [hasZ_cons, hno, Bool.false_or]
      · have e2 : dropZ (s :: r) en = s :: r := if_neg he
        rw [e2]
        refine ⟨⟨h.1, fun t ht => ?_⟩, ?_, fun _ h' => absurd h'.symm he, hin, fun x _ => rfl⟩
        · rcases List.mem_cons.1 ht with rfl | ht
          · exact ⟨by omega, hs.2⟩
          · have := hr t ht; exact ⟨by omega, this.2.2⟩
        · show 2 * (r.length + 1) - (if s.1 ≤ en then 1 else 0) ≤ 2 * (r.length + 1) - (if s.1 ≤ bg then 1 else 0)
          rw [if_pos (show s.1 ≤ bg by omega), if_pos (show s.1 ≤ en by omega)]; omega
theorem bg_lt {bg : Int} {ra rb : List (Int × Int)} (ha : Inv bg ra) (hb : Inv bg rb) (hne : ¬ (ra = [] ∧ rb = [])) : bg < 9223372036854775807 := by
  rcases ra with _ | ⟨s, r⟩
  · rcases rb with _ | ⟨t, u⟩
    · exact absurd ⟨rfl, rfl⟩ hne
    · have := hb.2 t (List.mem_cons_self ..); omega
  · have := ha.2 s (List.mem_cons_self ..); omega

theorem pieces_len : ∀ (n : Nat) (bg : Int) (ra rb : List (Int × Int)), Inv bg ra → Inv bg rb → (piecesZ n bg ra rb).length ≤ mu bg ra + mu bg rb
  | 0, _, _, _, _, _ => Nat.zero_le _
  | n + 1, bg, ra, rb, ha, hb => by
    unfold piecesZ
    by_cases hne : ra = [] ∧ rb = []
    · rw [if_pos hne]; exact Nat.zero_le _
    · rw [if_neg hne]
      have hbl := bg_lt ha hb hne
      have h1 := look_ok ha hbl
      have h2 := look_ok hb hbl
      obtain ⟨en, hen⟩ : ∃ en, min (lookZ ra bg).2 (lookZ rb bg).2 = en := ⟨_, rfl⟩
      rw [hen]
      obtain ⟨p1, p2, p3, -, -⟩ := drop_ok ha (en := en) (by omega) (by omega)
      obtain ⟨q1, q2, q3, -, -⟩ := drop_ok hb (en := en) (by omega) (by omega)
      have ih := pieces_len n en _ _ p1 q1
      rw [List.length_cons]
      have : mu en (dropZ ra en) + mu en (dropZ rb en) < mu bg ra + mu bg rb := by
        by_cases e : en = (lookZ ra bg).2
        · by_cases hra : ra = []
          · subst hra
            have hrb : rb ≠ [] := fun h => hne ⟨rfl, h⟩
            have e2 : (lookZ [] bg).2 = 9223372036854775807 := rfl
            have := q3 hrb (by omega)
            omega
          · have := p3 hra e; omega
        · by_cases hrb : rb = []
          · subst hrb
            have e2 : (lookZ [] bg).2 = 9223372036854775807 := rfl
            omega
          · have := q3 hrb (by omega); omega
      omega
theorem mu_le (bg : Int) (l : List (Int × Int)) : mu bg l ≤ 2 * l.length := by
  cases l with
  | nil => simp [mu]
  | cons s r => simp only [mu, List.length_cons]; omega

def combStep (f : Bool → Bool → Bool) (kept : List (Int × Int)) (p : Pc) : List (Int × Int) := if f p.2.1 p.2.2 then joinZ kept p.1 else kept
theorem joinZ_le {l : List (Int × Int)} {s : Int × Int} (h : ∀ u ∈ l, u.2 ≤ s.2) : ∀ u ∈ joinZ l s, u.2 ≤ s.2 := by
  rcases List.eq_nil_or_concat l with rfl | ⟨k, t, rfl⟩
  · rw [joinZ_nil]; simp
  · rw [List.concat_eq_append] at *
    rw [joinZ_last]
    have ht := h t (by simp)
    intro u hu
    split at hu
    · rw [List.mem_append, List.mem_singleton] at hu
      rcases hu with hu | rfl
      · exact h u (by simp [hu])
      · show max t.2 s.2 ≤ s.2; omega
    · rw [List.mem_append, List.mem_singleton] at hu
      rcases hu with hu | rfl
      · exact h u hu
      · exact Int.le_refl _
theorem comb_ok (f : Bool → Bool → Bool) (hf : f false false = false) : ∀ (n : Nat) (bg : Int) (ra rb kept : List (Int × Int)), Inv bg ra → Inv bg rb → bg ≤ 9223372036854775807 → (9223372036854775807 - bg).toNat ≤ n → Asc kept → (∀ u ∈ kept, u.2 ≤ bg) →
    Asc ((piecesZ n bg ra rb).foldl (combStep f) kept) ∧ ∀ x, hasZ ((piecesZ n bg ra rb).foldl (combStep f) kept) x = (hasZ kept x || (decide (bg ≤ x) && f (hasZ ra x) (hasZ rb x)))
  | 0, bg, ra, rb, kept, ha, hb, hbM, hn, hk, _ => by
    have hbg : bg = 9223372036854775807 := by omega
    have e : ∀ l, Inv bg l → l = [] := fun l h => by
      cases l with
      | nil => rfl
      | cons s r => have := h.2 s (List.mem_cons_self ..); omega
    rw [e _ ha, e _ hb]
    exact ⟨hk, fun x => by simp [piecesZ, hasZ_nil, hf]⟩
  | n + 1, bg, ra, rb, kept, ha, hb, hbM, hn, hk, hle => by
    unfold piecesZ
    by_cases hne : ra = [] ∧ rb = []
    · rw [if_pos hne, hne.1, hne.2]
      exact ⟨hk, fun x => by simp [hasZ_nil, hf]⟩
    · rw [if_neg hne]
      have hbl := bg_lt ha hb hne
      have h1 := look_ok ha hbl
      have h2 := look_ok hb hbl
      obtain ⟨en, hen⟩ : ∃ en, min (lookZ ra bg).2 (lookZ rb bg).2 = en := ⟨_, rfl⟩
      rw [hen]
      obtain ⟨p1, -, -, p4, p5⟩ := drop_ok ha (en := en) (by omega) (by omega)
      obtain ⟨q1, -, -, q4, q5⟩ := drop_ok hb (en := en) (by omega) (by omega)
      obtain ⟨F1, hF1⟩ : ∃ F, (lookZ ra bg).1 = F := ⟨_, rfl⟩
      obtain ⟨F2, hF2⟩ : ∃ F, (lookZ rb bg).1 = F := ⟨_, rfl⟩
      rw [hF1] at p4 ⊢
      rw [hF2] at q4 ⊢
      rw [List.foldl_cons]
      have hkt : ∀ t ∈ kept, t.1 ≤ bg := fun t ht => by have := hk.1 t ht; have := hle t ht; omega
      obtain ⟨j1, j2, -, -⟩ := joinZ_ok (s := (bg, en)) hk (by show bg < en; omega) hkt
      have j3 := joinZ_le (l := kept) (s := (bg, en)) (fun u hu => by have := hle u hu; show u.2 ≤ en; omega)
      have hstep : Asc (combStep f kept ((bg, en), F1, F2)) ∧ (∀ u ∈ combStep f kept ((bg, en), F1, F2), u.2 ≤ en) ∧ ∀ x, hasZ (combStep f kept ((bg, en), F1, F2)) x = (hasZ kept x || (f F1 F2 && inS (bg, en) x)) := by
        unfold combStep
        simp only
        cases f F1 F2 with
        | true => exact ⟨j1, j3, fun x => by rw [if_pos rfl, j2, Bool.true_and]⟩
        | false => exact ⟨hk, fun u hu => by have := hle u hu; omega, fun x => by simp⟩
      obtain ⟨s1, s2, s3⟩ := hstep
      obtain ⟨r1, r2⟩ := comb_ok f hf n en _ _ _ p1 q1 (by omega) (by omega) s1 s2
      refine ⟨r1, fun x => ?_⟩
      rw [r2, s3]
      by_cases hx1 : bg ≤ x
      · by_cases hx2 : x < en
        · rw [decide_eq_true hx1, decide_eq_false (show ¬ en ≤ x by omega), p4 x hx1 hx2, q4 x hx1 hx2, inS_iff.2 ⟨hx1, hx2⟩]
          simp
        · have hno : inS (bg, en) x = false := by rw [← Bool.not_eq_true, inS_iff]; simp only; omega
          rw [decide_eq_true hx1, decide_eq_true (show en ≤ x by omega), p5 x (by omega), q5 x (by omega), hno]
          simp
      · have hno : inS (bg, en) x = false := by rw [← Bool.not_eq_true, inS_iff]; simp only; omega
        rw [decide_eq_false hx1, decide_eq_false (show ¬ en ≤ x by omega), hno]
        simp

def combZ (f : Bool → Bool → Bool) (a b : List (Int × Int)) : List (Int × Int) := (allPc (nrmZ a) (nrmZ b)).foldl (combStep f) []
theorem inv_nrm {l : List (Int × Int)} (h : Bd l) : Inv (-9223372036854775808) (nrmZ l) := by
  refine ⟨nrmZ_asc l, fun s hs => ?_⟩
  have := h.nrm s hs
  have := (nrmZ_asc l).1 s hs
  omega
theorem combZ_ok (f : Bool → Bool → Bool) (hf : f false false = false) {a b : List (Int × Int)} (ha : Bd a) (hb : Bd b) : Asc (combZ f a b) ∧ ∀ x, hasZ (combZ f a b) x = f (hasZ a x) (hasZ b x) := by
  obtain ⟨h1, h2⟩ := comb_ok f hf 18446744073709551615 (-9223372036854775808) (nrmZ a) (nrmZ b) [] (inv_nrm ha) (inv_nrm hb) (by omega) (by omega) Asc.nil (by simp)
  refine ⟨h1, fun x => ?_⟩
  unfold combZ allPc
  rw [h2, hasZ_nil, Bool.false_or, nrmZ_has, nrmZ_has]
  by_cases hx : -9223372036854775808 ≤ x
  · rw [decide_eq_true hx, Bool.true_and]
  · have e : ∀ l, Bd l → hasZ l x = false := fun l hl => by
      rw [← Bool.not_eq_true]; intro h; have := hl.has h; omega
    rw [decide_eq_false hx, e a ha, e b hb, hf]; rfl
theorem comb_or {a b : List (Int × Int)} (ha : Bd a) (hb : Bd b) : combZ (fun x y => x || y) a b = uniZ a b := by
  obtain ⟨h1, h2⟩ := combZ_ok (fun x y => x || y) rfl ha hb
  exact asc_ext _ _ h1 (uniZ_asc a b) fun x => by rw [h2, uniZ_has]
theorem comb_and {a b : List (Int × Int)} (ha : Bd a) (hb : Bd b) : combZ (fun x y => x && y) a b = intZ a b := by
  obtain ⟨h1, h2⟩ := combZ_ok (fun x y => x && y) rfl ha hb
  exact asc_ext _ _ h1 (intZ_asc a b) fun x => by rw [h2, intZ_has]
theorem comb_sub {a b : List (Int × Int)} (ha : Bd a) (hb : Bd b) : combZ (fun x y => x && !y) a b = subZ a b := by
  obtain ⟨h1, h2⟩ := combZ_ok (fun x y => x && !y) rfl ha hb
  exact asc_ext _ _ h1 (subZ_asc a b) fun x => by rw [h2, subZ_has]
end Go.Proofs.Ytjocgipjmcnjfaa
