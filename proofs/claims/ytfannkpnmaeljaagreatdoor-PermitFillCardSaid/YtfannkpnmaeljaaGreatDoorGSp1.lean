import Derived.Test.YtfannkpnmaeljaaGreatDoorRows
import Derived.WalkKit
import Derived.WalkSpells
import Derived.WalkLawsBesides
import Derived.Lib.Hide
import Derived.Below
import Derived.Laws.Cells
import Derived.Laws.Rows
import Derived.Laws.Tables
import Derived.RangeFuncNested
import Derived.RangeFuncBound
import Derived.RangeFuncCalls
import Derived.RangeFuncLeaves
import Derived.RangeFuncBox
import Derived.RangeFuncWrites
import Derived.Shelf.Abstract
import Derived.Shelf.RegionOpen
import Derived.OwnWalkIn
import Derived.TacticsInMore
import Derived.LoopNIn
import Derived.LoopIn
import Derived.Lib.BufferWrite
import Derived.Laws.MakeOwn
import Derived.Laws.AppendOwn
import Derived.Laws.OwnMore
import Derived.Maps.AppendAt
import Derived.Deep.QuietTactic
import Derived.BigQuiet
import Derived.Shelf.SlSortCmp.QuietGrown
set_option linter.unusedVariables false
set_option linter.unusedSimpArgs false
/- Sets of integers as lists of spans. -/
namespace Go.Proofs.YtfannkpnmaeljaaGreatDoor

def inS (s : Int × Int) (x : Int) : Bool := decide (s.1 ≤ x) && decide (x < s.2)
def hasZ (l : List (Int × Int)) (x : Int) : Bool := l.any fun s => inS s x
def Asc (l : List (Int × Int)) : Prop := (∀ s ∈ l, s.1 < s.2) ∧ l.Pairwise fun s t => s.2 < t.1
instance (l : List (Int × Int)) : Decidable (Asc l) := inferInstanceAs (Decidable (_ ∧ _))
def ascB (l : List (Int × Int)) : Bool := decide (Asc l)

theorem inS_iff {s : Int × Int} {x : Int} : inS s x = true ↔ s.1 ≤ x ∧ x < s.2 := by simp [inS]
theorem hasZ_iff {l : List (Int × Int)} {x : Int} : hasZ l x = true ↔ ∃ s ∈ l, s.1 ≤ x ∧ x < s.2 := by simp [hasZ, inS]
theorem hasZ_nil (x : Int) : hasZ [] x = false := rfl
theorem hasZ_cons (s : Int × Int) (l : List (Int × Int)) (x : Int) : hasZ (s :: l) x = (inS s x || hasZ l x) := rfl
theorem hasZ_append (a b : List (Int × Int)) (x : Int) : hasZ (a ++ b) x = (hasZ a x || hasZ b x) := by simp [hasZ]
theorem hasZ_no {l : List (Int × Int)} {x : Int} : hasZ l x = false ↔ ∀ s ∈ l, ¬ (s.1 ≤ x ∧ x < s.2) := by
  rw [← Bool.not_eq_true, hasZ_iff]; simp

theorem Asc.nil : Asc [] := ⟨by simp, List.Pairwise.nil⟩
theorem asc_cons {s : Int × Int} {l : List (Int × Int)} : Asc (s :: l) ↔ s.1 < s.2 ∧ (∀ t ∈ l, s.2 < t.1) ∧ Asc l := by
  unfold Asc
  rw [List.pairwise_cons]
  constructor
  · rintro ⟨h1, h2, h3⟩
    exact ⟨h1 _ (List.mem_cons_self ..), h2, fun t ht => h1 t (List.mem_cons_of_mem _ ht), h3⟩
  · rintro ⟨h1, h2, h3, h4⟩
    refine ⟨fun t ht => ?_, h2, h4⟩
    rcases List.mem_cons.1 ht with rfl | h
    · exact h1
    · exact h3 _ h
theorem asc_append {a b : List (Int × Int)} : Asc (a ++ b) ↔ Asc a ∧ Asc b ∧ ∀ s ∈ a, ∀ t ∈ b, s.2 < t.1 := by
  unfold Asc
  rw [List.pairwise_append]
  constructor
  · rintro ⟨h1, h2, h3, h4⟩
    exact ⟨⟨fun s hs => h1 s (List.mem_append_left _ hs), h2⟩, ⟨fun s hs => h1 s (List.mem_append_right _ hs), h3⟩, h4⟩
  · rintro ⟨⟨h1, h2⟩, ⟨h3, h4⟩, h5⟩
    refine ⟨fun s hs => ?_, h2, h4, h5⟩
    rcases List.mem_append.1 hs with h | h
    · exact h1 s h
    · exact h3 s h

/-- Valid lists with the same integers are the same list. -/
theorem asc_ext : ∀ (a b : List (Int × Int)), Asc a → Asc b → (∀ x, hasZ a x = hasZ b x) → a = b
  | [], [], _, _, _ => rfl
  | [], t :: b, _, hb, h => by
    have h1 := (asc_cons.1 hb).1
    have := h t.1
    rw [hasZ_nil, hasZ_cons, inS_iff.2 ⟨by omega, h1⟩] at this
    simp at this
  | s :: a, [], ha, _, h => by
    have h1 := (asc_cons.1 ha).1
    have := h s.1
    rw [hasZ_nil, hasZ_cons, inS_iff.2 ⟨by omega, h1⟩] at this
    simp at this
  | s :: a, t :: b, ha, hb, h => by
    obtain ⟨a1, a2, a3⟩ := asc_cons.1 ha
    obtain ⟨b1, b2, b3⟩ := asc_cons.1 hb
    have A : ∀ x, hasZ (s :: a) x = true → s.1 ≤ x := fun x hx => by
      obtain ⟨u, hu, h1, h2⟩ := hasZ_iff.1 hx
      rcases List.mem_cons.1 hu with rfl | hu
      · exact h1
      · have := a2 u hu; omega
    have B : ∀ x, hasZ (t :: b) x = true → t.1 ≤ x := fun x hx => by
      obtain ⟨u, hu, h1, h2⟩ := hasZ_iff.1 hx
      rcases List.mem_cons.1 hu with rfl | hu
      · exact h1
      · have := b2 u hu; omega
    have hs : hasZ (s :: a) s.1 = true := by rw [hasZ_cons, inS_iff.2 ⟨by omega, a1⟩]; rfl
    have ht : hasZ (t :: b) t.1 = true := by rw [hasZ_cons, inS_iff.2 ⟨by omega, b1⟩]; rfl
    have e1 : s.1 = t.1 := by
      have h1 := B _ (by rw [← h]; exact hs)
      have h2 := A _ (by rw [h]; exact ht)
      omega
    have na : hasZ (s :: a) s.2 = false := by
      rw [hasZ_no]
      intro u hu
      rcases List.mem_cons.1 hu with rfl | hu
      · omega
      · have := a2 u hu; omega
    have nb : hasZ (t :: b) t.2 = false := by
      rw [hasZ_no]
      intro u hu
      rcases List.mem_cons.1 hu with rfl | hu
      · omega
      · have := b2 u hu; omega
    have e2 : s.2 = t.2 := by
      rw [h, hasZ_no] at na
      rw [← h, hasZ_no] at nb
      have h1 := na t (List.mem_cons_self ..)
      have h2 := nb s (List.mem_cons_self ..)
      omega
    have e : s = t := Prod.ext e1 e2
    subst e
    have := asc_ext a b a3 b3 fun x => by
      have hx := h x
      rw [hasZ_cons, hasZ_cons] at hx
      by_cases hi : inS s x = true
      · have hi' := inS_iff.1 hi
        have q1 : hasZ a x = false := hasZ_no.2 fun u hu => by have := a2 u hu; omega
        have q2 : hasZ b x = false := hasZ_no.2 fun u hu => by have := b2 u hu; omega
        rw [q1, q2]
      · rw [Bool.not_eq_true] at hi
        rw [hi] at hx
        exact hx
    rw [this]

/- The reference's way: one span more. -/
def addStep (st : List (Int × Int) × (Int × Int) × List (Int × Int)) (t : Int × Int) : List (Int × Int) × (Int × Int) × List (Int × Int) :=
  if t.2 < st.2.1.1 then (st.1 ++ [t], st.2.1, st.2.2)
  else if st.2.1.2 < t.1 then (st.1, st.2.1, st.2.2 ++ [t])
  else (st.1, (min st.2.1.1 t.1, max st.2.1.2 t.2), st.2.2)
def addFin (st : List (Int × Int) × (Int × Int) × List (Int × Int)) : List (Int × Int) := st.1 ++ [st.2.1] ++ st.2.2
def addS (l : List (Int × Int)) (s : Int × Int) : List (Int × Int) := if s.2 ≤ s.1 then l else addFin (l.foldl addStep ([], s, []))
def nrmZ (l : List (Int × Int)) : List (Int × Int) := l.foldl addS []

theorem addRun_ok : ∀ (rest b : List (Int × Int)) (s : Int × Int) (a : List (Int × Int)), (∀ u ∈ b ++ a, ∀ t ∈ rest, u.2 < t.1) → Asc rest → Asc b → (∀ u ∈ b, u.2 < s.1) → s.1 < s.2 → Asc a → (∀ u ∈ a, s.2 < u.1) →
    Asc (addFin (rest.foldl addStep (b, s, a))) ∧ ∀ x, hasZ (addFin (rest.foldl addStep (b, s, a))) x = (hasZ b x || inS s x || hasZ a x || hasZ rest x)
  | [], b, s, a, _, _, hb, hbs, hs, ha, has => by
    constructor
    · unfold addFin
      simp only [List.foldl_nil]
      rw [asc_append, asc_append, asc_cons]
      refine ⟨⟨hb, ⟨hs, by simp, Asc.nil⟩, by simpa using hbs⟩, ha, ?_⟩
      intro u hu t ht
      rw [List.mem_append, List.mem_singleton] at hu
      rcases hu with hu | rfl
      · have := hbs u hu; have := has t ht; omega
      · exact has t ht
    · intro x
      simp [addFin, hasZ_append, hasZ_cons, hasZ_nil, List.foldl_nil, Bool.or_assoc]
  | t :: rest, b, s, a, hba, hr, hb, hbs, hs, ha, has => by
    obtain ⟨r1, r2, r3⟩ := asc_cons.1 hr
    have hba0 : ∀ u ∈ b ++ a, u.2 < t.1 := fun u hu => hba u hu t (List.mem_cons_self ..)
    have hbar : ∀ u ∈ b ++ a, ∀ v ∈ rest, u.2 < v.1 := fun u hu v hv => hba u hu v (List.mem_cons_of_mem _ hv)
    rw [List.foldl_cons]
    by_cases h1 : t.2 < s.1
    · rw [show addStep (b, s, a) t = (b ++ [t], s, a) by simp [addStep, h1]]
      obtain ⟨q1, q2⟩ := addRun_ok rest (b ++ [t]) s a (by
        intro u hu v hv
        simp only [List.mem_append, List.mem_singleton] at hu
        rcases hu with (hu | rfl) | hu
        · exact hbar u (List.mem_append_left _ hu) v hv
        · exact r2 v hv
        · exact hbar u (List.mem_append_right _ hu) v hv) r3 (by
          rw [asc_append, asc_cons]
          exact ⟨hb, ⟨r1, by simp, Asc.nil⟩, fun u hu v hv => by rw [List.mem_singleton] at hv; subst hv; exact hba0 u (List.mem_append_left _ hu)⟩) (by
          intro u hu
          rw [List.mem_append, List.mem_singleton] at hu
          rcases hu with hu | rfl
          · exact hbs u hu
          · exact h1) hs ha has
      refine ⟨q1, fun x => ?_⟩
      rw [q2, hasZ_append, hasZ_cons t rest, hasZ_cons, hasZ_nil]
      cases hasZ b x <;> cases inS t x <;> cases inS s x <;> cases hasZ a x <;> rfl
    · by_cases h2 : s.2 < t.1
      · rw [show addStep (b, s, a) t = (b, s, a ++ [t]) by simp [addStep, h1, h2]]
        obtain ⟨q1, q2⟩ := addRun_ok rest b s (a ++ [t]) (by
          intro u hu v hv
          simp only [List.mem_append, List.mem_singleton] at hu
          rcases hu with hu | hu | rfl
          · exact hbar u (List.mem_append_left _ hu) v hv
          · exact hbar u (List.mem_append_right _ hu) v hv
          · exact r2 v hv) r3 hb hbs hs (by
            rw [asc_append, asc_cons]
            exact ⟨ha, ⟨r1, by simp, Asc.nil⟩, fun u hu v hv => by rw [List.mem_singleton] at hv; subst hv; exact hba0 u (List.mem_append_right _ hu)⟩) (by
            intro u hu
            rw [List.mem_append, List.mem_singleton] at hu
            rcases hu with hu | rfl
            · exact has u hu
            · exact h2)
        refine ⟨q1, fun x => ?_⟩
        rw [q2, hasZ_append, hasZ_cons t rest, hasZ_cons, hasZ_nil]
        cases hasZ b x <;> cases inS t x <;> cases inS s x <;> cases hasZ a x <;> rfl
      · rw [show addStep (b, s, a) t = (b, (min s.1 t.1, max s.2 t.2), a) by simp [addStep, h1, h2]]
        have ha0 : a = [] := by
          cases a with
          | nil => rfl
          | cons u a' =>
            have g1 := has u (List.mem_cons_self ..)
            have g2 := hba0 u (List.mem_append_right _ (List.mem_cons_self ..))
            have g3 := ha.1 u (List.mem_cons_self ..)
            omega
        subst ha0
        obtain ⟨q1, q2⟩ := addRun_ok rest b (min s.1 t.1, max s.2 t.2) [] hbar r3 hb (by
          intro u hu
          have g1 := hbs u hu
          have g2 := hba0 u (List.mem_append_left _ hu)
          show u.2 < min s.1 t.1
          omega) (by show min s.1 t.1 < max s.2 t.2; omega) Asc.nil (by simp)
        refine ⟨q1, fun x => ?_⟩
        rw [q2, hasZ_cons, hasZ_nil]
        have : inS (min s.1 t.1, max s.2 t.2) x = (inS s x || inS t x) := by
          rw [Bool.eq_iff_iff, Bool.or_eq_true, inS_iff, inS_iff, inS_iff]
          show min s.1 t.1 ≤ x ∧ x < max s.2 t.2 ↔ _
          omega
        rw [this]
        cases hasZ b x <;> cases inS t x <;> cases inS s x <;> rfl

theorem addS_asc {l : List (Int × Int)} {s : Int × Int} (h : Asc l) : Asc (addS l s) := by
  unfold addS
  by_cases hs : s.2 ≤ s.1
  · rw [if_pos hs]; exact h
  · rw [if_neg hs]
    exact (addRun_ok l [] s [] (by simp) h Asc.nil (by simp) (by omega) Asc.nil (by simp)).1
theorem addS_has {l : List (Int × Int)} {s : Int × Int} (h : Asc l) (x : Int) : hasZ (addS l s) x = (hasZ l x || inS s x) := by
  unfold addS
  by_cases hs : s.2 ≤ s.1
  · rw [if_pos hs]
    have : inS s x = false := by rw [← Bool.not_eq_true, inS_iff]; omega
    rw [this, Bool.or_false]
  · rw [if_neg hs, (addRun_ok l [] s [] (by simp) h Asc.nil (by simp) (by omega) Asc.nil (by simp)).2]
    simp [hasZ_nil, Bool.or_comm]
theorem addAll_ok : ∀ (l acc : List (Int × Int)), Asc acc → Asc (l.foldl addS acc) ∧ ∀ x, hasZ (l.foldl addS acc) x = (hasZ acc x || hasZ l x)
  | [], acc, h => ⟨h, fun x => by simp [hasZ_nil]⟩
  | s :: l, acc, h => by
    obtain ⟨q1, q2⟩ := addAll_ok l (addS acc s) (addS_asc h)
    refine ⟨q1, fun x => ?_⟩
    rw [List.foldl_cons, q2, addS_has h, hasZ_cons, Bool.or_assoc]
theorem nrmZ_asc (l : List (Int × Int)) : Asc (nrmZ l) := (addAll_ok l [] Asc.nil).1
theorem nrmZ_has (l : List (Int × Int)) (x : Int) : hasZ (nrmZ l) x = hasZ l x := by
  unfold nrmZ; rw [(addAll_ok l [] Asc.nil).2, hasZ_nil, Bool.false_or]
theorem nrmZ_eq {l r : List (Int × Int)} (h : Asc r) (hx : ∀ x, hasZ r x = hasZ l x) : r = nrmZ l :=
  asc_ext _ _ h (nrmZ_asc l) fun x => by rw [nrmZ_has, hx]
theorem nrmZ_of {l : List (Int × Int)} (h : Asc l) : nrmZ l = l := (nrmZ_eq h fun _ => rfl).symm

/- Union, intersection, difference in the reference's way. -/
def uniZ (a b : List (Int × Int)) : List (Int × Int) := b.foldl addS (nrmZ a)
def intRow (b : List (Int × Int)) (acc : List (Int × Int)) (s : Int × Int) : List (Int × Int) := b.foldl (fun acc t => addS acc (max s.1 t.1, min s.2 t.2)) acc
def intZ (a b : List (Int × Int)) : List (Int × Int) := a.foldl (intRow b) []
def subRow (t : Int × Int) (rest : List (Int × Int)) (s : Int × Int) : List (Int × Int) := addS (addS rest (s.1, min s.2 t.1)) (max s.1 t.2, s.2)
def subOne (out : List (Int × Int)) (t : Int × Int) : List (Int × Int) := if t.2 ≤ t.1 then out else out.foldl (subRow t) []
def subZ (a b : List (Int × Int)) : List (Int × Int) := b.foldl subOne (nrmZ a)

theorem uniZ_asc (a b : List (Int × Int)) : Asc (uniZ a b) := (addAll_ok b _ (nrmZ_asc a)).1
theorem uniZ_has (a b : List (Int × Int)) (x : Int) : hasZ (uniZ a b) x = (hasZ a x || hasZ b x) := by
  unfold uniZ; rw [(addAll_ok b _ (nrmZ_asc a)).2, nrmZ_has]
theorem intRow_ok (s : Int × Int) : ∀ (b acc : List (Int × Int)), Asc acc → Asc (intRow b acc s) ∧ ∀ x, hasZ (intRow b acc s) x = (hasZ acc x || (inS s x && hasZ b x))
  | [], acc, h => ⟨h, fun x => by simp [intRow, hasZ_nil]⟩
  | t :: b, acc, h => by
    obtain ⟨q1, q2⟩ := intRow_ok s b (addS acc (max s.1 t.1, min s.2 t.2)) (addS_asc h)
    refine ⟨q1, fun x => ?_⟩
    rw [show intRow (t :: b) acc s = intRow b (addS acc (max s.1 t.1, min s.2 t.2)) s from rfl, q2, addS_has h, hasZ_cons]
    have : inS (max s.1 t.1, min s.2 t.2) x = (inS s x && inS t x) := by
      rw [Bool.eq_iff_iff, Bool.and_eq_true, inS_iff, inS_iff, inS_iff]
      show max s.1 t.1 ≤ x ∧ x < min s.2 t.2 ↔ _
      omega
    rw [this]
    cases hasZ acc x <;> cases inS s x <;> cases inS t x <;> rfl
theorem intAll_ok (b : List (Int × Int)) : ∀ (a acc : List (Int × Int)), Asc acc → Asc (a.foldl (intRow b) acc) ∧ ∀ x, hasZ (a.foldl (intRow b) acc) x = (hasZ acc x || (hasZ a x && hasZ b x))
  | [], acc, h => ⟨h, fun x => by simp [hasZ_nil]⟩
  | s :: a, acc, h => by
    obtain ⟨p1, p2⟩ := intRow_ok s b acc h
    obtain ⟨q1, q2⟩ := intAll_ok b a (intRow b acc s) p1
    refine ⟨q1, fun x => ?_⟩
    rw [List.foldl_cons, q2, p2, hasZ_cons]
    cases hasZ acc x <;> cases inS s x <;> cases hasZ a x <;> cases hasZ b x <;> rfl
theorem intZ_asc (a b : List (Int × Int)) : Asc (intZ a b) := (intAll_ok b a [] Asc.nil).1
theorem intZ_has (a b : List (Int × Int)) (x : Int) : hasZ (intZ a b) x = (hasZ a x && hasZ b x) := by
  unfold intZ; rw [(intAll_ok b a [] Asc.nil).2, hasZ_nil, Bool.false_or]
theorem subRow_ok {t : Int × Int} (ht : t.1 < t.2) : ∀ (out acc : List (Int × Int)), Asc acc → Asc (out.foldl (subRow t) acc) ∧ ∀ x, hasZ (out.foldl (subRow t) acc) x = (hasZ acc x || (hasZ out x && !inS t x))
  | [], acc, h => ⟨h, fun x => by simp [hasZ_nil]⟩
  | s :: out, acc, h => by
    have h1 : Asc (addS acc (s.1, min s.2 t.1)) := addS_asc h
    have h2 : Asc (subRow t acc s) := addS_asc h1
    obtain ⟨q1, q2⟩ := subRow_ok ht out (subRow t acc s) h2
    refine ⟨q1, fun x => ?_⟩
    rw [List.foldl_cons, q2, show hasZ (subRow t acc s) x = (hasZ acc x || inS (s.1, min s.2 t.1) x || inS (max s.1 t.2, s.2) x) by
      unfold subRow; rw [addS_has h1, addS_has h], hasZ_cons]
    have : (inS (s.1, min s.2 t.1) x || inS (max s.1 t.2, s.2) x) = (inS s x && !inS t x) := by
      rw [Bool.eq_iff_iff, Bool.or_eq_true, Bool.and_eq_true, Bool.not_eq_true', ← Bool.not_eq_true, inS_iff, inS_iff, inS_iff, inS_iff]
      show (s.1 ≤ x ∧ x < min s.2 t.1) ∨ (max s.1 t.2 ≤ x ∧ x < s.2) ↔ _
      omega
    rw [Bool.or_assoc (hasZ acc x), this]
    cases hasZ acc x <;> cases inS s x <;> cases hasZ out x <;> cases inS t x <;> rfl
theorem subAll_ok : ∀ (b out : List (Int × Int)), Asc out → Asc (b.foldl subOne out) ∧ ∀ x, hasZ (b.foldl subOne out) x = (hasZ out x && !hasZ b x)
  | [], out, h => ⟨h, fun x => by simp [hasZ_nil]⟩
  | t :: b, out, h => by
    by_cases ht : t.2 ≤ t.1
    · obtain ⟨q1, q2⟩ := subAll_ok b out h
      rw [List.foldl_cons, show subOne out t = out by simp [subOne, ht]]
      refine ⟨q1, fun x => ?_⟩
      have : inS t x = false := by rw [← Bool.not_eq_true, inS_iff]; omega
      rw [q2, hasZ_cons, this, Bool.false_or]
    · obtain ⟨p1, p2⟩ := subRow_ok (t := t) (by omega) out [] Asc.nil
      rw [List.foldl_cons, show subOne out t = out.foldl (subRow t) [] by simp [subOne, ht]]
      obtain ⟨q1, q2⟩ := subAll_ok b _ p1
      refine ⟨q1, fun x => ?_⟩
      rw [q2, p2, hasZ_nil, hasZ_cons]
      cases hasZ out x <;> cases inS t x <;> cases hasZ b x <;> rfl
theorem subZ_asc (a b : List (Int × Int)) : Asc (subZ a b) := (subAll_ok b _ (nrmZ_asc a)).1
theorem subZ_has (a b : List (Int × Int)) (x : Int) : hasZ (subZ a b) x = (hasZ a x && !hasZ b x) := by
  unfold subZ; rw [(subAll_ok b _ (nrmZ_asc a)).2, nrmZ_has]

/- Bounds. -/
def Bd (l : List (Int × Int)) : Prop := ∀ s ∈ l, -9223372036854775808 ≤ s.1 ∧ s.1 ≤ 9223372036854775807 ∧ -9223372036854775808 ≤ s.2 ∧ s.2 ≤ 9223372036854775807
theorem Bd.has {l : List (Int × Int)} (h : Bd l) {x : Int} (hx : hasZ l x = true) : -9223372036854775808 ≤ x ∧ x < 9223372036854775807 := by
  obtain ⟨s, hs, h1, h2⟩ := hasZ_iff.1 hx
  have := h s hs
  omega
theorem Bd.of_has {l : List (Int × Int)} (h : Asc l) (hx : ∀ x, hasZ l x = true → -9223372036854775808 ≤ x ∧ x < 9223372036854775807) : Bd l := by
  intro s hs
  have h1 := h.1 s hs
  have h2 := hx s.1 (hasZ_iff.2 ⟨s, hs, by omega, by omega⟩)
  have h3 := hx (s.2 - 1) (hasZ_iff.2 ⟨s, hs, by omega, by omega⟩)
  omega
theorem Bd.nrm {l : List (Int × Int)} (h : Bd l) : Bd (nrmZ l) := .of_has (nrmZ_asc l) fun x hx => h.has (by rwa [nrmZ_has] at hx)
theorem Bd.uni {a b : List (Int × Int)} (ha : Bd a) (hb : Bd b) : Bd (uniZ a b) := .of_has (uniZ_asc a b) fun x hx => by
  rw [uniZ_has, Bool.or_eq_true] at hx
  rcases hx with h | h
  · exact ha.has h
  · exact hb.has h
theorem Bd.int {a b : List (Int × Int)} (ha : Bd a) : Bd (intZ a b) := .of_has (intZ_asc a b) fun x hx => by
  rw [intZ_has, Bool.and_eq_true] at hx; exact ha.has hx.1
theorem Bd.sub {a b : List (Int × Int)} (ha : Bd a) : Bd (subZ a b) := .of_has (subZ_asc a b) fun x hx => by
  rw [subZ_has, Bool.and_eq_true] at hx; exact ha.has hx.1
theorem Bd.nil : Bd [] := by intro s hs; cases hs
theorem Bd.take {l : List (Int × Int)} (h : Bd l) (k : Nat) : Bd (l.take k) := fun s hs => h s (List.mem_of_mem_take hs)

/- The code's way: a span that begins no earlier joins. -/
def joinZ (l : List (Int × Int)) (s : Int × Int) : List (Int × Int) :=
  match l.getLast? with
  | none => l ++ [s]
  | some t => if s.1 ≤ t.2 then l.dropLast ++ [(t.1, max t.2 s.2)] else l ++ [s]
theorem joinZ_nil (s : Int × Int) : joinZ [] s = [s] := rfl
theorem joinZ_last (l : List (Int × Int)) (t s : Int × Int) : joinZ (l ++ [t]) s = if s.1 ≤ t.2 then l ++ [(t.1, max t.2 s.2)] else l ++ [t] ++ [s] := by
  unfold joinZ; rw [List.getLast?_concat, List.dropLast_concat]
theorem joinZ_ok {l : List (Int × Int)} {s : Int × Int} (h : Asc l) (hs : s.1 < s.2) (hl : ∀ t ∈ l, t.1 ≤ s.1) : Asc (joinZ l s) ∧ (∀ x, hasZ (joinZ l s) x = (hasZ l x || inS s x)) ∧ (∀ t ∈ joinZ l s, t.1 ≤ s.1) ∧ (joinZ l s).length ≤ l.length + 1 := by
  rcases List.eq_nil_or_concat l with rfl | ⟨k, t, rfl⟩
  · rw [joinZ_nil]
    exact ⟨asc_cons.2 ⟨hs, by simp, Asc.nil⟩, fun x => by simp [hasZ], by simp, by simp⟩
  · rw [List.concat_eq_append] at *
    rw [joinZ_last]
    obtain ⟨k1, k2, k3⟩ := asc_append.1 h
    have ht := (asc_cons.1 k2).1
    have hts := hl t (by simp)
    by_cases hc : s.1 ≤ t.2
    · rw [if_pos hc]
      refine ⟨asc_append.2 ⟨k1, asc_cons.2 ⟨by show t.1 < max t.2 s.2; omega, by simp, Asc.nil⟩, ?_⟩, fun x => ?_, ?_, by simp⟩
      · intro u hu v hv
        rw [List.mem_singleton] at hv; subst hv
        exact k3 u hu t (by simp)
      · rw [hasZ_append, hasZ_append, hasZ_cons, hasZ_cons, hasZ_nil, Bool.or_false, Bool.or_false, Bool.or_assoc]
        congr 1
        rw [Bool.eq_iff_iff, Bool.or_eq_true, inS_iff, inS_iff, inS_iff]
        show t.1 ≤ x ∧ x < max t.2 s.2 ↔ _
        omega
      · intro u hu
        rw [List.mem_append, List.mem_singleton] at hu
        rcases hu with hu | rfl
        · exact hl u (by simp [hu])
        · exact hts
    · rw [if_neg hc]
      refine ⟨asc_append.2 ⟨h, asc_cons.2 ⟨hs, by simp, Asc.nil⟩, ?_⟩, fun x => ?_, ?_, by simp⟩
      · intro u hu v hv
        rw [List.mem_singleton] at hv; subst hv
        rw [List.mem_append, List.mem_singleton] at hu
        rcases hu with hu | rfl
        · have := k3 u hu t (by simp); omega
        · omega
      · rw [hasZ_append _ [s], hasZ_cons, hasZ_nil, Bool.or_false]
      · intro u hu
        rw [List.mem_append, List.mem_singleton] at hu
        rcases hu with hu | rfl
        · exact hl u hu
        · omega
theorem joinAll_ok : ∀ (l acc : List (Int × Int)), Asc acc → (∀ s ∈ l, s.1 < s.2) → l.Pairwise (fun s t => s.1 ≤ t.1) → (∀ u ∈ acc, ∀ t ∈ l, u.1 ≤ t.1) → Asc (l.foldl joinZ acc) ∧ (∀ x, hasZ (l.foldl joinZ acc) x = (hasZ acc x || hasZ l x))
  | [], acc, h, _, _, _ => ⟨h, fun x => by simp [hasZ_nil]⟩
  | s :: l, acc, h, hn, hp, hl => by
    rw [List.pairwise_cons] at hp
    obtain ⟨j1, j2, j3, -⟩ := joinZ_ok h (hn s (List.mem_cons_self ..)) (fun t ht => hl t ht s (List.mem_cons_self ..))
    obtain ⟨q1, q2⟩ := joinAll_ok l (joinZ acc s) j1 (fun t ht => hn t (List.mem_cons_of_mem _ ht)) hp.2 (fun u hu t ht => by
      have := j3 u hu; have := hp.1 t ht; omega)
    refine ⟨q1, fun x => ?_⟩
    rw [List.foldl_cons, q2, j2, hasZ_cons, Bool.or_assoc]

/-- The code's Normal. -/
theorem joinAll_nrm {l f d : List (Int × Int)} (hf : f = l.filter fun s => !decide (s.2 ≤ s.1)) (hp : d.Perm f) (hs : d.Pairwise fun s t => s.1 ≤ t.1) : d.foldl joinZ [] = nrmZ l := by
  have hmem : ∀ s ∈ d, s.1 < s.2 := fun s hs => by
    have := hp.mem_iff.1 hs
    rw [hf, List.mem_filter] at this
    simpa using this.2
  obtain ⟨q1, q2⟩ := joinAll_ok d [] Asc.nil hmem hs (by simp)
  refine nrmZ_eq q1 fun x => ?_
  rw [q2, hasZ_nil, Bool.false_or, Bool.eq_iff_iff, hasZ_iff, hasZ_iff]
  constructor
  · rintro ⟨s, h1, h2, h3⟩
    have := hp.mem_iff.1 h1
    rw [hf, List.mem_filter] at this
    exact ⟨s, this.1, h2, h3⟩
  · rintro ⟨s, h1, h2, h3⟩
    refine ⟨s, hp.mem_iff.2 ?_, h2, h3⟩
    rw [hf, List.mem_filter]
    exact ⟨h1, by simp; omega⟩
end Go.Proofs.YtfannkpnmaeljaaGreatDoor

/- The pieces of two lists. -/
namespace Go.Proofs.YtfannkpnmaeljaaGreatDoor

def lookZ : List (Int × Int) → Int → Bool × Int
  | [], _ => (false, 9223372036854775807)
  | s :: _, x => if x < s.1 then (false, s.1) else (true, s.2)
def dropZ : List (Int × Int) → Int → List (Int × Int)
  | [], _ => []
  | s :: r, x => if s.2 = x then r else s :: r
abbrev Pc := (Int × Int) × Bool × Bool
def piecesZ : Nat → Int → List (Int × Int) → List (Int × Int) → List Pc
  | 0, _, _, _ => []
  | n + 1, bg, ra, rb => if ra = [] ∧ rb = [] then [] else
    ((bg, min (lookZ ra bg).2 (lookZ rb bg).2), (lookZ ra bg).1, (lookZ rb bg).1) :: piecesZ n (min (lookZ ra bg).2 (lookZ rb bg).2) (dropZ ra (min (lookZ ra bg).2 (lookZ rb bg).2)) (dropZ rb (min (lookZ ra bg).2 (lookZ rb bg).2))
def allPc (a b : List (Int × Int)) : List Pc := piecesZ 18446744073709551615 (-9223372036854775808) a b
def Inv (bg : Int) (l : List (Int × Int)) : Prop := Asc l ∧ ∀ s ∈ l, bg < s.2 ∧ s.2 ≤ 9223372036854775807
def mu (bg : Int) : List (Int × Int) → Nat
  | [] => 0
  | s :: r => 2 * (r.length + 1) - (if s.1 ≤ bg then 1 else 0)

theorem look_ok {bg : Int} {l : List (Int × Int)} (h : Inv bg l) (hb : bg < 9223372036854775807) : bg < (lookZ l bg).2 ∧ (lookZ l bg).2 ≤ 9223372036854775807 := by
  cases l with
  | nil => exact ⟨hb, Int.le_refl _⟩
  | cons s r =>
    have h1 := h.2 s (List.mem_cons_self ..)
    have h2 := h.1.1 s (List.mem_cons_self ..)
    by_cases hc : bg < s.1
    · rw [show lookZ (s :: r) bg = (false, s.1) from if_pos hc]; exact ⟨hc, by simp only; omega⟩
    · rw [show lookZ (s :: r) bg = (true, s.2) from if_neg hc]; exact h1
theorem drop_ok {bg en : Int} {l : List (Int × Int)} (h : Inv bg l) (h1 : bg < en) (h2 : en ≤ (lookZ l bg).2) :
    Inv en (dropZ l en) ∧ mu en (dropZ l en) ≤ mu bg l ∧ (l ≠ [] → en = (lookZ l bg).2 → mu en (dropZ l en) < mu bg l) ∧ (∀ x, bg ≤ x → x < en → hasZ l x = (lookZ l bg).1) ∧ (∀ x, en ≤ x → hasZ (dropZ l en) x = hasZ l x) := by
  cases l with
  | nil => exact ⟨⟨Asc.nil, by simp [dropZ]⟩, by simp [dropZ, mu], fun h => absurd rfl h, fun x _ _ => rfl, fun x _ => rfl⟩
  | cons s r =>
    obtain ⟨a1, a2, a3⟩ := asc_cons.1 h.1
    have hs := h.2 s (List.mem_cons_self ..)
    have hr : ∀ t ∈ r, s.2 < t.1 ∧ t.1 < t.2 ∧ t.2 ≤ 9223372036854775807 := fun t ht => ⟨a2 t ht, a3.1 t ht, (h.2 t (List.mem_cons_of_mem _ ht)).2⟩
    have hrno : ∀ x, x ≤ s.2 → hasZ r x = false := fun x hx => hasZ_no.2 fun t ht => by have := hr t ht; omega
    by_cases hc : bg < s.1
    · have e1 : lookZ (s :: r) bg = (false, s.1) := if_pos hc
      rw [e1] at h2 ⊢
      simp only at h2
      have e2 : dropZ (s :: r) en = s :: r := if_neg (by omega)
      rw [e2]
      refine ⟨⟨h.1, fun t ht => ?_⟩, ?_, fun _ he => ?_, fun x _ hx => ?_, fun x _ => rfl⟩
      · rcases List.mem_cons.1 ht with rfl | ht
        · exact ⟨by omega, hs.2⟩
        · have := hr t ht; exact ⟨by omega, this.2.2⟩
      · show 2 * (r.length + 1) - (if s.1 ≤ en then 1 else 0) ≤ 2 * (r.length + 1) - (if s.1 ≤ bg then 1 else 0)
        rw [if_neg (show ¬ s.1 ≤ bg by omega)]; omega
      · simp only at he
        show 2 * (r.length + 1) - (if s.1 ≤ en then 1 else 0) < 2 * (r.length + 1) - (if s.1 ≤ bg then 1 else 0)
        rw [if_neg (show ¬ s.1 ≤ bg by omega), if_pos (show s.1 ≤ en by omega)]; omega
      · rw [hasZ_cons, hrno x (by omega), Bool.or_false, ← Bool.not_eq_true, inS_iff]; omega
    · have e1 : lookZ (s :: r) bg = (true, s.2) := if_neg hc
      rw [e1] at h2 ⊢
      simp only at h2
      have hin : ∀ x, bg ≤ x → x < en → hasZ (s :: r) x = true := fun x hx1 hx2 => by rw [hasZ_cons, inS_iff.2 ⟨by omega, by omega⟩]; rfl
      by_cases he : s.2 = en
      · have e2 : dropZ (s :: r) en = r := if_pos he
        rw [e2]
        have hmu : mu en r < mu bg (s :: r) := by
          show _ < 2 * (r.length + 1) - (if s.1 ≤ bg then 1 else 0)
          rw [if_pos (by omega)]
          cases r with
          | nil => simp [mu]
          | cons t r => show 2 * (r.length + 1) - _ < _; simp; omega
        refine ⟨⟨a3, fun t ht => ?_⟩, by omega, fun _ _ => hmu, hin, fun x hx => ?_⟩
        · have := hr t ht; exact ⟨by omega, this.2.2⟩
        · have hno : inS s x = false := by rw [← Bool.not_eq_true, inS_iff]; omega
          rw [hasZ_cons, hno, Bool.false_or]
      · have e2 : dropZ (s :: r) en = s :: r := if_neg he
        rw [e2]
        refine ⟨⟨h.1, fun t ht => ?_⟩, ?_, fun _ h' => absurd h'.symm he, hin, fun x _ => rfl⟩
        · rcases List.mem_cons.1 ht with rfl | ht
          · exact ⟨by omega, hs.2⟩
          · have := hr t ht; exact ⟨by omega, this.2.2⟩
        · show 2 * (r.length + 1) - (if s.1 ≤ en then 1 else 0) ≤ 2 * (r.length + 1) - (if s.1 ≤ bg then 1 else 0)
          rw [if_pos (show s.1 ≤ bg by omega), if_pos (show s.1 ≤ en by omega)]; omega
theorem bg_lt {bg : Int} {ra rb : List (Int × Int)} (ha : Inv bg ra) (hb : Inv bg rb) (hne : ¬ (ra = [] ∧ rb = [])) : bg < 9223372036854775807 := by
  rcases ra with _ | ⟨s, r⟩
  · rcases rb with _ | ⟨t, u⟩
    · exact absurd ⟨rfl, rfl⟩ hne
    · have := hb.2 t (List.mem_cons_self ..); omega
  · have := ha.2 s (List.mem_cons_self ..); omega

theorem pieces_len : ∀ (n : Nat) (bg : Int) (ra rb : List (Int × Int)), Inv bg ra → Inv bg rb → (piecesZ n bg ra rb).length ≤ mu bg ra + mu bg rb
  | 0, _, _, _, _, _ => Nat.zero_le _
  | n + 1, bg, ra, rb, ha, hb => by
    unfold piecesZ
    by_cases hne : ra = [] ∧ rb = []
    · rw [if_pos hne]; exact Nat.zero_le _
    · rw [if_neg hne]
      have hbl := bg_lt ha hb hne
      have h1 := look_ok ha hbl
      have h2 := look_ok hb hbl
      obtain ⟨en, hen⟩ : ∃ en, min (lookZ ra bg).2 (lookZ rb bg).2 = en := ⟨_, rfl⟩
      rw [hen]
      obtain ⟨p1, p2, p3, -, -⟩ := drop_ok ha (en := en) (by omega) (by omega)
      obtain ⟨q1, q2, q3, -, -⟩ := drop_ok hb (en := en) (by omega) (by omega)
      have ih := pieces_len n en _ _ p1 q1
      rw [List.length_cons]
      have : mu en (dropZ ra en) + mu en (dropZ rb en) < mu bg ra + mu bg rb := by
        by_cases e : en = (lookZ ra bg).2
        · by_cases hra : ra = []
          · subst hra
            have hrb : rb ≠ [] := fun h => hne ⟨rfl, h⟩
            have e2 : (lookZ [] bg).2 = 9223372036854775807 := rfl
            have := q3 hrb (by omega)
            omega
          · have := p3 hra e; omega
        · by_cases hrb : rb = []
          · subst hrb
            have e2 : (lookZ [] bg).2 = 9223372036854775807 := rfl
            omega
          · have := q3 hrb (by omega); omega
      omega
theorem mu_le (bg : Int) (l : List (Int × Int)) : mu bg l ≤ 2 * l.length := by
  cases l with
  | nil => simp [mu]
  | cons s r => simp only [mu, List.length_cons]; omega

def combStep (f : Bool → Bool → Bool) (kept : List (Int × Int)) (p : Pc) : List (Int × Int) := if f p.2.1 p.2.2 then joinZ kept p.1 else kept
theorem joinZ_le {l : List (Int × Int)} {s : Int × Int} (h : ∀ u ∈ l, u.2 ≤ s.2) : ∀ u ∈ joinZ l s, u.2 ≤ s.2 := by
  rcases List.eq_nil_or_concat l with rfl | ⟨k, t, rfl⟩
  · rw [joinZ_nil]; simp
  · rw [List.concat_eq_append] at *
    rw [joinZ_last]
    have ht := h t (by simp)
    intro u hu
    split at hu
    · rw [List.mem_append, List.mem_singleton] at hu
      rcases hu with hu | rfl
      · exact h u (by simp [hu])
      · show max t.2 s.2 ≤ s.2; omega
    · rw [List.mem_append, List.mem_singleton] at hu
      rcases hu with hu | rfl
      · exact h u hu
      · exact Int.le_refl _
theorem comb_ok (f : Bool → Bool → Bool) (hf : f false false = false) : ∀ (n : Nat) (bg : Int) (ra rb kept : List (Int × Int)), Inv bg ra → Inv bg rb → bg ≤ 9223372036854775807 → (9223372036854775807 - bg).toNat ≤ n → Asc kept → (∀ u ∈ kept, u.2 ≤ bg) →
    Asc ((piecesZ n bg ra rb).foldl (combStep f) kept) ∧ ∀ x, hasZ ((piecesZ n bg ra rb).foldl (combStep f) kept) x = (hasZ kept x || (decide (bg ≤ x) && f (hasZ ra x) (hasZ rb x)))
  | 0, bg, ra, rb, kept, ha, hb, hbM, hn, hk, _ => by
    have hbg : bg = 9223372036854775807 := by omega
    have e : ∀ l, Inv bg l → l = [] := fun l h => by
      cases l with
      | nil => rfl
      | cons s r => have := h.2 s (List.mem_cons_self ..); omega
    rw [e _ ha, e _ hb]
    exact ⟨hk, fun x => by simp [piecesZ, hasZ_nil, hf]⟩
  | n + 1, bg, ra, rb, kept, ha, hb, hbM, hn, hk, hle => by
    unfold piecesZ
    by_cases hne : ra = [] ∧ rb = []
    · rw [if_pos hne, hne.1, hne.2]
      exact ⟨hk, fun x => by simp [hasZ_nil, hf]⟩
    · rw [if_neg hne]
      have hbl := bg_lt ha hb hne
      have h1 := look_ok ha hbl
      have h2 := look_ok hb hbl
      obtain ⟨en, hen⟩ : ∃ en, min (lookZ ra bg).2 (lookZ rb bg).2 = en := ⟨_, rfl⟩
      rw [hen]
      obtain ⟨p1, -, -, p4, p5⟩ := drop_ok ha (en := en) (by omega) (by omega)
      obtain ⟨q1, -, -, q4, q5⟩ := drop_ok hb (en := en) (by omega) (by omega)
      obtain ⟨F1, hF1⟩ : ∃ F, (lookZ ra bg).1 = F := ⟨_, rfl⟩
      obtain ⟨F2, hF2⟩ : ∃ F, (lookZ rb bg).1 = F := ⟨_, rfl⟩
      rw [hF1] at p4 ⊢
      rw [hF2] at q4 ⊢
      rw [List.foldl_cons]
      have hkt : ∀ t ∈ kept, t.1 ≤ bg := fun t ht => by have := hk.1 t ht; have := hle t ht; omega
      obtain ⟨j1, j2, -, -⟩ := joinZ_ok (s := (bg, en)) hk (by show bg < en; omega) hkt
      have j3 := joinZ_le (l := kept) (s := (bg, en)) (fun u hu => by have := hle u hu; show u.2 ≤ en; omega)
      have hstep : Asc (combStep f kept ((bg, en), F1, F2)) ∧ (∀ u ∈ combStep f kept ((bg, en), F1, F2), u.2 ≤ en) ∧ ∀ x, hasZ (combStep f kept ((bg, en), F1, F2)) x = (hasZ kept x || (f F1 F2 && inS (bg, en) x)) := by
        unfold combStep
        simp only
        cases f F1 F2 with
        | true => exact ⟨j1, j3, fun x => by rw [if_pos rfl, j2, Bool.true_and]⟩
        | false => exact ⟨hk, fun u hu => by have := hle u hu; omega, fun x => by simp⟩
      obtain ⟨s1, s2, s3⟩ := hstep
      obtain ⟨r1, r2⟩ := comb_ok f hf n en _ _ _ p1 q1 (by omega) (by omega) s1 s2
      refine ⟨r1, fun x => ?_⟩
      rw [r2, s3]
      by_cases hx1 : bg ≤ x
      · by_cases hx2 : x < en
        · rw [decide_eq_true hx1, decide_eq_false (show ¬ en ≤ x by omega), p4 x hx1 hx2, q4 x hx1 hx2, inS_iff.2 ⟨hx1, hx2⟩]
          simp
        · have hno : inS (bg, en) x = false := by rw [← Bool.not_eq_true, inS_iff]; simp only; omega
          rw [decide_eq_true hx1, decide_eq_true (show en ≤ x by omega), p5 x (by omega), q5 x (by omega), hno]
          simp
      · have hno : inS (bg, en) x = false := by rw [← Bool.not_eq_true, inS_iff]; simp only; omega
        rw [decide_eq_false hx1, decide_eq_false (show ¬ en ≤ x by omega), hno]
        simp

def combZ (f : Bool → Bool → Bool) (a b : List (Int × Int)) : List (Int × Int) := (allPc (nrmZ a) (nrmZ b)).foldl (combStep f) []
theorem inv_nrm {l : List (Int × Int)} (h : Bd l) : Inv (-9223372036854775808) (nrmZ l) := by
  refine ⟨nrmZ_asc l, fun s hs => ?_⟩
  have := h.nrm s hs
  have := (nrmZ_asc l).1 s hs
  omega
theorem combZ_ok (f : Bool → Bool → Bool) (hf : f false false = false) {a b : List (Int × Int)} (ha : Bd a) (hb : Bd b) : Asc (combZ f a b) ∧ ∀ x, hasZ (combZ f a b) x = f (hasZ a x) (hasZ b x) := by
  obtain ⟨h1, h2⟩ := comb_ok f hf 18446744073709551615 (-9223372036854775808) (nrmZ a) (nrmZ b) [] (inv_nrm ha) (inv_nrm hb) (by omega) (by omega) Asc.nil (by simp)
  refine ⟨h1, fun x => ?_⟩
  unfold combZ allPc
  rw [h2, hasZ_nil, Bool.false_or, nrmZ_has, nrmZ_has]
  by_cases hx : -9223372036854775808 ≤ x
  · rw [decide_eq_true hx, Bool.true_and]
  · have e : ∀ l, Bd l → hasZ l x = false := fun l hl => by
      rw [← Bool.not_eq_true]; intro h; have := hl.has h; omega
    rw [decide_eq_false hx, e a ha, e b hb, hf]; rfl
theorem comb_or {a b : List (Int × Int)} (ha : Bd a) (hb : Bd b) : combZ (fun x y => x || y) a b = uniZ a b := by
  obtain ⟨h1, h2⟩ := combZ_ok (fun x y => x || y) rfl ha hb
  exact asc_ext _ _ h1 (uniZ_asc a b) fun x => by rw [h2, uniZ_has]
theorem comb_and {a b : List (Int × Int)} (ha : Bd a) (hb : Bd b) : combZ (fun x y => x && y) a b = intZ a b := by
  obtain ⟨h1, h2⟩ := combZ_ok (fun x y => x && y) rfl ha hb
  exact asc_ext _ _ h1 (intZ_asc a b) fun x => by rw [h2, intZ_has]
theorem comb_sub {a b : List (Int × Int)} (ha : Bd a) (hb : Bd b) : combZ (fun x y => x && !y) a b = subZ a b := by
  obtain ⟨h1, h2⟩ := combZ_ok (fun x y => x && !y) rfl ha hb
  exact asc_ext _ _ h1 (subZ_asc a b) fun x => by rw [h2, subZ_has]
end Go.Proofs.YtfannkpnmaeljaaGreatDoor

/- Blocks and boxes. -/
namespace Go.Proofs.YtfannkpnmaeljaaGreatDoor
open Go.RowKit

abbrev iv (n : Int) : Value := .int .i64 n
theorem w64 {n : Int} (h1 : -9223372036854775808 ≤ n) (h2 : n ≤ 9223372036854775807) : IntKind.i64.wrap n = n := by
  rw [IntKind.wrap_i64]; omega
theorem ret_int {k : IntKind} {a b : Int} (h : a = b) : Ending.returned (.int k a) = .returned (.int k b) := by rw [h]
theorem bthen {a b c : World} (h : Below a.heap.size a b) (k : Below b.heap.size b c) : Below a.heap.size a c := h.trans (k.mono h.size)
theorem bcell {W w1 : World} (hb : Below W.heap.size W w1) : (∀ b o, b < W.heap.size → w1.cell? ⟨b, o, none⟩ = W.cell? ⟨b, o, none⟩) ∧ (∀ b o, b < W.heap.size → w1.frozen? ⟨b, o, none⟩ = W.frozen? ⟨b, o, none⟩) :=
  ⟨fun b o h => hb.cell (p := ⟨b, o, none⟩) h, fun b o h => hb.frozen (p := ⟨b, o, none⟩) h⟩

/-! ### Arrays in blocks of their own -/
def Arr (W : World) (B : Nat) (t : TypeId) (vs : List Value) : Prop := W.heap[B]? = some (.cells vs.toArray t (0, 0))

theorem Arr.cell {W : World} {B : Nat} {t : TypeId} {vs : List Value} (h : Arr W B t vs) {i : Nat} {v : Value} (hv : vs[i]? = some v) : W.cell? ⟨B, i, none⟩ = some v := by
  rw [cell_of_row _ _ i _ t (0, 0) h]
  simpa using hv
theorem Arr.below {W W' : World} {B n : Nat} {t : TypeId} {vs : List Value} (h : Arr W B t vs) (hb : Below n W W') (hB : B < n) : Arr W' B t vs := (hb.block B hB).trans h
theorem Arr.lt {W : World} {B : Nat} {t : TypeId} {vs : List Value} (h : Arr W B t vs) : B < W.heap.size := (Array.getElem?_eq_some_iff.1 h).1
theorem Arr.alloc {W : World} {B : Nat} {t : TypeId} {vs : List Value} (h : Arr W B t vs) (o : Obj) : Arr (W.alloc o) B t vs := (Below.heap_alloc _ _ _ h.lt).trans h
theorem Arr.new (W : World) (t : TypeId) (vs : List Value) : Arr (W.alloc (.cells vs.toArray t)) W.heap.size t vs := heap_alloc_new W _
theorem Arr.new' {W : World} {n : Nat} (t : TypeId) (vs : List Value) (hn : n = W.heap.size) : Arr (W.alloc (.cells vs.toArray t)) n t vs := hn ▸ heap_alloc_new W _
theorem Arr.frozen {W : World} {B : Nat} {t : TypeId} {vs : List Value} (h : Arr W B t vs) (i : Nat) : W.frozen? ⟨B, i, none⟩ = false := by
  unfold World.frozen?
  rw [h]
  simp
theorem Arr.drew {W : World} {B : Nat} {t : TypeId} {vs : List Value} (h : Arr W B t vs) : Arr W.drew B t vs := h

theorem Arr.set {W : World} {B : Nat} {t : TypeId} {vs : List Value} (h : Arr W B t vs) (i : Nat) (v : Value) : Arr (W.setCell ⟨B, i, none⟩ v) B t (vs.set i v) := by
  have := heap_setCell_same W B i _ t v h
  unfold Arr
  rw [this]; simp
theorem Arr.set_other {W : World} {B C : Nat} {t : TypeId} {vs : List Value} (h : Arr W B t vs) (i : Nat) (v : Value) (hne : C ≠ B) : Arr (W.setCell ⟨C, i, none⟩ v) B t vs := by
  unfold Arr World.setCell
  simp [Array.getElem?_modify, hne]
  exact h

theorem Arr.row {W : World} {B : Nat} {t : TypeId} {vs : List Value} (h : Arr W B t vs) (us : List Value) : Arr (W.setRow B us.toArray) B t us := setRow_heap _ _ _ _ _ _ h
theorem Arr.row_other {W : World} {B C : Nat} {t : TypeId} {vs : List Value} (h : Arr W B t vs) (us : Array Value) (hne : C ≠ B) : Arr (W.setRow C us) B t vs := (setRow_other _ _ _ _ (Ne.symm hne)).trans h
theorem below_setRow {n C : Nat} {w W : World} (h : Below n w W) (hC : n ≤ C) (us : Array Value) : Below n w (W.setRow C us) :=
  h.trans ⟨rfl, rfl, rfl, by simp, fun k hk => setRow_other _ _ _ _ (by omega)⟩

theorem Arr.load {P : Program} {W : World} {B : Nat} {t : TypeId} {vs : List Value} (h : Arr W B t vs) {n : Nat} (hn : vs.length = n) :
    (loadCellsFrom ⟨B, 0, none⟩ 0 n #[]).run P W = .ok vs.toArray W := by
  subst hn
  have := run_loadCells_list (P := P) W ⟨B, 0, none⟩ vs (fun j v hv => by
    have hadd : (⟨B, 0, none⟩ : Addr).add j = ⟨B, j, none⟩ := by unfold Addr.add; split <;> simp_all
    rw [hadd]; exact h.cell hv)
  simpa [loadCells] using this

theorem Arr.store {P : Program} {W : World} {B : Nat} {t : TypeId} {vs : List Value} (h : Arr W B t vs) (out : Array Value) (hi : (P.info? t).map (·.size) = some out.size) (hs : vs.toArray.size = out.size) (h1 : out.all (·.oneCell') = true) :
    (storeCells ⟨B, 0, none⟩ out.toList 0).run P W = .ok () (W.setRow B out) := by
  have := run_storeVar_row (P := P) W B t t vs.toArray out h hi hs h1
  cases hq : P.info? t with
  | none => simp [hq] at hi
  | some i =>
    have hs : out.size = i.size := by simp [hq] at hi; omega
    simpa [storeVar, sizeOf, typeInfo, hq, Value.cells, hs] using this

/-- A store of a whole array: the world behind it by what is known of it. -/
theorem wpList_store_abs {P : Program} {ops : Array Oper} {rest : List Oper} {o : Oper} {a : Act} {w : World} {Q : Exit → Act → World → Prop} (hgd : o.guard = none) (ty : TypeId) (x y : Operand) (ho : o.op = .store ty x y)
    (g : Nat) (cells : Array Value) (hx : a.eval x = .pointer (some ⟨g, 0, none⟩)) (hy : a.eval y = .agg cells)
    (t : TypeId) (old : Array Value) (hg : w.heap[g]? = some (.cells old t (0, 0))) (hi : (P.info? ty).map (·.size) = some cells.size)
    (hold : old.size = cells.size) (h1 : cells.all (·.oneCell') = true)
    (h : ∀ W, W.heap[g]? = some (.cells cells t (0, 0)) → Below g w W → (∀ k, k ≠ g → W.heap[k]? = w.heap[k]?) → wpList P ops Q rest (a.put o.dst undef) W) : wpList P ops Q (o :: rest) a w :=
  wpList_store_row hgd ty x y ho g cells hx hy t old hg hi hold h1 (h _ (setRow_heap _ _ _ _ _ _ hg) (below_setRow (Below.refl _ _) (Nat.le_refl _) _) (fun k hk => setRow_other _ _ _ _ hk))


/-! ### Rows of spans -/
/-- The spans of l lie at p. -/
def ShAt (w : World) (n₀ : Nat) (p : Option Addr) (sh : List (Int × Int)) : Prop :=
  ∀ i, i < sh.length → ∃ b o, p = some ⟨b, o, none⟩ ∧ b < n₀ ∧ w.cell? ⟨b, o + i * 2, none⟩ = some (iv (sh.getD i (0, 0)).1) ∧ w.cell? ⟨b, o + i * 2 + 1, none⟩ = some (iv (sh.getD i (0, 0)).2)
theorem ShAt.below {w w' : World} {n₀ : Nat} {p : Option Addr} {sh : List (Int × Int)} (h : ShAt w n₀ p sh) (hb : Below n₀ w w') : ShAt w' n₀ p sh := fun i hi => by
  obtain ⟨b, o, h1, h2, h3, h4⟩ := h i hi
  exact ⟨b, o, h1, h2, (hb.cell (p := ⟨b, _, none⟩) h2).trans h3, (hb.cell (p := ⟨b, _, none⟩) h2).trans h4⟩
theorem ShAt.mono {w : World} {n₀ n₁ : Nat} {p : Option Addr} {sh : List (Int × Int)} (h : ShAt w n₀ p sh) (hn : n₀ ≤ n₁) : ShAt w n₁ p sh := fun i hi => by
  obtain ⟨b, o, h1, h2, h3, h4⟩ := h i hi
  exact ⟨b, o, h1, by omega, h3, h4⟩
theorem ShAt.into {w w' : World} {p : Option Addr} {sh : List (Int × Int)} (h : ShAt w w.heap.size p sh) (hb : Below w.heap.size w w') : ShAt w' w'.heap.size p sh := (h.below hb).mono hb.size
theorem ShAt.nil (w : World) (n : Nat) (p : Option Addr) : ShAt w n p [] := fun i hi => by cases hi
theorem ShAt.take {w : World} {n : Nat} {p : Option Addr} {sh : List (Int × Int)} (h : ShAt w n p sh) (k : Nat) : ShAt w n p (sh.take k) := fun i hi => by
  have hi' : i < k ∧ i < sh.length := by rw [List.length_take] at hi; omega
  have e : (sh.take k).getD i (0, 0) = sh.getD i (0, 0) := by
    rw [List.getD_eq_getElem?_getD, List.getD_eq_getElem?_getD, List.getElem?_take_of_lt hi'.1]
  rw [e]
  exact h i hi'.2

def spv (l : List (Int × Int)) : List Value := l.flatMap fun x => [iv x.1, iv x.2]
theorem spv_len (l : List (Int × Int)) : (spv l).length = l.length * 2 := by
  induction l with
  | nil => rfl
  | cons x r ih => simp [spv] at ih ⊢; omega
theorem spv_append (l m : List (Int × Int)) : spv (l ++ m) = spv l ++ spv m := by simp [spv]
theorem spv_get {l : List (Int × Int)} {i : Nat} (h : i < l.length) : (spv l)[i * 2]? = some (iv (l.getD i (0, 0)).1) ∧ (spv l)[i * 2 + 1]? = some (iv (l.getD i (0, 0)).2) := by
  induction l generalizing i with
  | nil => simp at h
  | cons x r ih =>
    cases i with
    | zero => simp [spv]
    | succ i =>
      have := ih (i := i) (by simpa using h)
      simp only [spv, List.flatMap_cons] at this ⊢
      rw [show (i + 1) * 2 = i * 2 + 2 by omega]
      simpa using this
theorem spv_one (l : List (Int × Int)) : ∀ u ∈ spv l, u.oneCell' = true := by
  intro u hu
  simp only [spv, List.mem_flatMap] at hu
  obtain ⟨x, -, hu⟩ := hu
  simp at hu
  rcases hu with rfl | rfl <;> rfl

theorem infoS : (Tryz.prog.info? 34).map (fun i => (i.zero, i.size, i.bytes)) = some (some (.agg #[.int .i64 0, .int .i64 0]), 2, 16) := by kernel_rfl

theorem own_sh {w : World} {N : Nat} {v : Value} {l : List (Int × Int)} (h : w.ownsRow N 34 2 v l.length (spv l)) : ∃ p cap, v = .slice p l.length cap ∧ ShAt w w.heap.size p l := by
  rcases h.2 with ⟨rfl, h0⟩ | ⟨g, cap, cur, rfl, hb, hg, h4⟩
  · rw [h0]
    exact ⟨none, 0, rfl, fun i hi => by omega⟩
  · refine ⟨_, cap, rfl, fun i hi => ?_⟩
    have hc := h.cells (g := g) rfl
    obtain ⟨s0, s1⟩ := spv_get hi
    have e : ∀ j, (⟨g, 0, none⟩ : Addr).add j = ⟨g, j, none⟩ := fun j => by unfold Addr.add; split <;> simp_all
    have c0 := hc _ _ s0
    have c1 := hc _ _ s1
    rw [e] at c0 c1
    exact ⟨g, 0, rfl, (Array.getElem?_eq_some_iff.1 hg).1, by rw [Nat.zero_add]; exact c0, by rw [Nat.zero_add]; exact c1⟩

/-- A list of the call's own. -/
def Own (w : World) (l : List (Int × Int)) (e : Ending) (w' : World) : Prop := ∃ v, e = .returned v ∧ w'.ownsRow w.heap.size 34 2 v l.length (spv l) ∧ Below w.heap.size w w'
/-- A list, of the call's own or not. -/
def Sl (w : World) (l : List (Int × Int)) (e : Ending) (w' : World) : Prop := ∃ p cap, e = .returned (.slice p l.length cap) ∧ ShAt w' w'.heap.size p l ∧ Below w.heap.size w w'
theorem Own.sl {w : World} {l : List (Int × Int)} {e : Ending} {w' : World} (h : Own w l e w') : Sl w l e w' := by
  obtain ⟨v, rfl, h1, h2⟩ := h
  obtain ⟨p, cap, rfl, h3⟩ := own_sh h1
  exact ⟨p, cap, rfl, h3, h2⟩

/-! ### Small functions -/
theorem grow_below (w : World) (n : Nat) (os : Array Obj) : Below w.heap.size w (Go.Sort.grow (w.drewN n) os) :=
  ⟨rfl, rfl, rfl, by show w.heap.size ≤ (w.heap ++ os).size; simp, fun k hk => by show (w.heap ++ os)[k]? = w.heap[k]?; rw [Array.getElem?_append_left hk]⟩
theorem isEmpty_gr (a b : Int) (w : World) : Calls Tryz.prog 77 #[.agg #[iv a, iv b]] w fun e w' => e = .returned (.bool (decide (b ≤ a))) ∧ ∃ q os', w' = Go.Sort.grow (w.drewN q) os' := by
  go_enter Tryz.func77, Tryz.ntmps77
  go_wp2
  go_ret
  exact ⟨rfl, 0, _, by rw [Go.Sort.alloc_eq_grow]; rfl⟩
theorem isEmpty_any (a b : Int) (w : World) : Calls Tryz.prog 77 #[.agg #[iv a, iv b]] w fun e w' => e = .returned (.bool (decide (b ≤ a))) ∧ Below w.heap.size w w' :=
  (isEmpty_gr a b w).mono fun _ _ ⟨he, q, os, hw⟩ => ⟨he, hw ▸ grow_below w q os⟩

theorem isNaN_any (a : Int) (w : World) : Calls Tryz.prog 137 #[iv a] w fun e w' => e = .returned (.bool false) ∧ w' = w := by
  go_enter Tryz.func137, Tryz.ntmps137
  go_wp2
  go_ret
  exact ⟨by simp, rfl⟩

def cmpZ (a b : Int) : Int := if a < b then -1 else if b < a then 1 else 0
theorem cmp_any (a b : Int) (w : World) : Calls Tryz.prog 120 #[iv a, iv b] w fun e w' => e = .returned (iv (cmpZ a b)) ∧ w' = w := by
  have hn := fun x W => isNaN_any x W
  unfold cmpZ
  by_cases h1 : a < b
  · rw [if_pos h1]
    go_enter Tryz.func120, Tryz.ntmps120
    go_wp2_with (go_at_call 137; refine (hn _ _).mono ?_; rintro e w' ⟨rfl, rfl⟩)
    go_ret
    exact ⟨rfl, rfl⟩
  · rw [if_neg h1]
    by_cases h2 : b < a
    · rw [if_pos h2]
      go_enter Tryz.func120, Tryz.ntmps120
      go_wp2_with (go_at_call 137; refine (hn _ _).mono ?_; rintro e w' ⟨rfl, rfl⟩)
      go_ret
      exact ⟨rfl, rfl⟩
    · rw [if_neg h2]
      go_enter Tryz.func120, Tryz.ntmps120
      go_wp2_with (go_at_call 137; refine (hn _ _).mono ?_; rintro e w' ⟨rfl, rfl⟩)
      go_ret
      exact ⟨rfl, rfl⟩

theorem either_any (a b : Bool) (w : World) : Calls Tryz.prog 125 #[.agg #[.bool a, .bool b]] w fun e w' => e = .returned (.bool (a || b)) ∧ Below w.heap.size w w' := by
  cases a <;> cases b <;>
  (go_enter Tryz.func125, Tryz.ntmps125
   go_wp2
   go_ret
   exact ⟨rfl, (Below.refl _ w).alloc (Nat.le_refl _) _⟩)
theorem first_any (a b : Bool) (w : World) : Calls Tryz.prog 126 #[.agg #[.bool a, .bool b]] w fun e w' => e = .returned (.bool (a && !b)) ∧ Below w.heap.size w w' := by
  cases a <;> cases b <;>
  (go_enter Tryz.func126, Tryz.ntmps126
   go_wp2
   go_ret
   exact ⟨rfl, (Below.refl _ w).alloc (Nat.le_refl _) _⟩)
end Go.Proofs.YtfannkpnmaeljaaGreatDoor
