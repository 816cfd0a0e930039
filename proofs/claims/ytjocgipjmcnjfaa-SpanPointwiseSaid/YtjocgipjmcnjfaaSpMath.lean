/- Sets of integers as lists of spans. -/
namespace Go.Proofs.Ytjocgipjmcnjfaa

def inS (s : Int × Int) (x : Int) : Bool := decide (s.1 ≤ x) && decide (x < s.2)
def hasZ (l : List (Int × Int)) (x : Int) : Bool := l.any fun s => inS s x
def Asc (l : List (Int × Int)) : Prop := (∀ s ∈ l, s.1 < s.2) ∧ l.Pairwise fun s t => s.2 < t.1
instance (l : List (Int × Int)) : Decidable (Asc l) := inferInstanceAs (Decidable (_ ∧ _))
def ascB (l : List (Int × Int)) : Bool := decide (Asc l)

theorem inS_iff {s : Int × Int} {x : Int} : inS s x = true ↔ s.1 ≤ x ∧ x < s.2 := by simp [inS]
theorem hasZ_iff {l : List (Int × Int)} {x : Int} : hasZ l x = true ↔ ∃ s ∈ l, s.1 ≤ x ∧ x < s.2 := by simp [hasZ, inS]
theorem hasZ_nil (x : Int) : hasZ [] x = false := rfl
theorem hasZ_cons (s : Int × Int) (l : List (Int × Int)) (x : Int) : hasZ (s :: l) x = (inS s x || hasZ l x) := rfl
theorem hasZ_append (a b : List (Int × Int)) (x : Int) : hasZ (a ++ b) x = (hasZ a x || hasZ b x) := by simp [hasZ]
theorem hasZ_no {l : List (Int × Int)} {x : Int} : hasZ l x = false ↔ ∀ s ∈ l, ¬ (s.1 ≤ x ∧ x < s.2) := by
  rw [← Bool.not_eq_true, hasZ_iff]; simp

theorem Asc.nil : Asc [] := ⟨by simp, List.Pairwise.nil⟩
theorem asc_cons {s : Int × Int} {l : List (Int × Int)} : Asc (s :: l) ↔ s.1 < s.2 ∧ (∀ t ∈ l, s.2 < t.1) ∧ Asc l := by
  unfold Asc
  rw [List.pairwise_cons]
  constructor
  · rintro ⟨h1, h2, h3⟩
    exact ⟨h1 _ (List.mem_cons_self ..), h2, fun t ht => h1 t (List.mem_cons_of_mem _ ht), h3⟩
  · rintro ⟨h1, h2, h3, h4⟩
    refine ⟨fun t ht => ?_, h2, h4⟩
    rcases List.mem_cons.1 ht with rfl | h
    · exact h1
    · exact h3 _ h
theorem asc_append {a b : List (Int × Int)} : Asc (a ++ b) ↔ Asc a ∧ Asc b ∧ ∀ s ∈ a, ∀ t ∈ b, s.2 < t.1 := by
  unfold Asc
  rw [List.pairwise_append]
  constructor
  · rintro ⟨h1, h2, h3, h4⟩
    exact ⟨⟨fun s hs => h1 s (List.mem_append_left _ hs), h2⟩, ⟨fun s hs => h1 s (List.mem_append_right _ hs), h3⟩, h4⟩
  · rintro ⟨⟨h1, h2⟩, ⟨h3, h4⟩, h5⟩
    refine ⟨fun s hs => ?_, h2, h4, h5⟩
    rcases List.mem_append.1 hs with h | h
    · exact h1 s h
    · exact h3 s h

/-- Valid lists with the same integers are the same list. -/
theorem asc_ext : ∀ (a b : List (Int × Int)), Asc a → Asc b → (∀ x, hasZ a x = hasZ b x) → a = b
  | [], [], _, _, _ => rfl
  | [], t :: b, _, hb, h => by
    have h1 := (asc_cons.1 hb).1
    have := h t.1
    rw [hasZ_nil, hasZ_cons, inS_iff.2 ⟨by omega, h1⟩] at this
    simp at this
  | s :: a, [], ha, _, h => by
    have h1 := (asc_cons.1 ha).1
    have := h s.1
    rw [hasZ_nil, hasZ_cons, inS_iff.2 ⟨by omega, h1⟩] at this
    simp at this
  | s :: a, t :: b, ha, hb, h => by
    obtain ⟨a1, a2, a3⟩ := asc_cons.1 ha
    obtain ⟨b1, b2, b3⟩ := asc_cons.1 hb
    have A : ∀ x, hasZ (s :: a) x = true → s.1 ≤ x := fun x hx => by
      obtain ⟨u, hu, h1, h2⟩ := hasZ_iff.1 hx
      rcases List.mem_cons.1 hu with rfl | hu
      · exact h1
      · have := a2 u hu; omega
    have B : ∀ x, hasZ (t :: b) x = true → t.1 ≤ x := fun x hx => by
      obtain ⟨u, hu, h1, h2⟩ := hasZ_iff.1 hx
      rcases List.mem_cons.1 hu with rfl | hu
      · exact h1
      · have := b2 u hu; omega
    have hs : hasZ (s :: a) s.1 = true := by rw [hasZ_cons, inS_iff.2 ⟨by omega, a1⟩]; rfl
    have ht : hasZ (t :: b) t.1 = true := by rw [hasZ_cons, inS_iff.2 ⟨by omega, b1⟩]; rfl
    have e1 : s.1 = t.1 := by
      have h1 := B _ (by rw [← h]; exact hs)
      have h2 := A _ (by rw [h]; exact ht)
      omega
    have na : hasZ (s :: a) s.2 = false := by
      rw [hasZ_no]
      intro u hu
      rcases List.mem_cons.1 hu with rfl | hu
      · omega
      · have := a2 u hu; omega
    have nb : hasZ (t :: b) t.2 = false := by
      rw [hasZ_no]
      intro u hu
      rcases List.mem_cons.1 hu with rfl | hu
      · omega
      · have := b2 u hu; omega
    have e2 : s.2 = t.2 := by
      rw [h, hasZ_no] at na
      rw [← h, hasZ_no] at nb
      have h1 := na t (List.mem_cons_self ..)
      have h2 := nb s (List.mem_cons_self ..)
      omega
    have e : s = t := Prod.ext e1 e2
    subst e
    have := asc_ext a b a3 b3 fun x => by
      have hx := h x
      rw [hasZ_cons, hasZ_cons] at hx
      by_cases hi : inS s x = true
      · have hi' := inS_iff.1 hi
        have q1 : hasZ a x = false := hasZ_no.2 fun u hu => by have := a2 u hu; omega
        have q2 : hasZ b x = false := hasZ_no.2 fun u hu => by have := b2 u hu; omega
        rw [q1, q2]
      · rw [Bool.not_eq_true] at hi
        rw [hi] at hx
        exact hx
    rw [this]

/- The reference's way: one span more. -/
def addStep (st : List (Int × Int) × (Int × Int) × List (Int × Int)) (t : Int × Int) : List (Int × Int) × (Int × Int) × List (Int × Int) :=
  if t.2 < st.2.1.1 then (st.1 ++ [t], st.2.1, st.2.2)
  else if st.2.1.2 < t.1 then (st.1, st.2.1, st.2.2 ++ [t])
  else (st.1, (min st.2.1.1 t.1, max st.2.1.2 t.2), st.2.2)
def addFin (st : List (Int × Int) × (Int × Int) × List (Int × Int)) : List (Int × Int) := st.1 ++ [st.2.1] ++ st.2.2
def addS (l : List (Int × Int)) (s : Int × Int) : List (Int × Int) := if s.2 ≤ s.1 then l else addFin (l.foldl addStep ([], s, []))
def nrmZ (l : List (Int × Int)) : List (Int × Int) := l.foldl addS []

theorem addRun_ok : ∀ (rest b : List (Int × Int)) (s : Int × Int) (a : List (Int × Int)), (∀ u ∈ b ++ a, ∀ t ∈ rest, u.2 < t.1) → Asc rest → Asc b → (∀ u ∈ b, u.2 < s.1) → s.1 < s.2 → Asc a → (∀ u ∈ a, s.2 < u.1) →
    Asc (addFin (rest.foldl addStep (b, s, a))) ∧ ∀ x, hasZ (addFin (rest.foldl addStep (b, s, a))) x = (hasZ b x || inS s x || hasZ a x || hasZ rest x)
  | [], b, s, a, _, _, hb, hbs, hs, ha, has => by
    constructor
    · unfold addFin
      simp only [List.foldl_nil]
      rw [asc_append, asc_append, asc_cons]
      refine ⟨⟨hb, ⟨hs, by simp, Asc.nil⟩, by simpa using hbs⟩, ha, ?_⟩
      intro u hu t ht
      rw [List.mem_append, List.mem_singleton] at hu
      rcases hu with hu | rfl
      · have := hbs u hu; have := has t ht; omega
      · exact has t ht
    · intro x
      simp [addFin, hasZ_append, hasZ_cons, hasZ_nil, List.foldl_nil, Bool.or_assoc]
  | t :: rest, b, s, a, hba, hr, hb, hbs, hs, ha, has => by
    obtain ⟨r1, r2, r3⟩ := asc_cons.1 hr
    have hba0 : ∀ u ∈ b ++ a, u.2 < t.1 := fun u hu => hba u hu t (List.mem_cons_self ..)
    have hbar : ∀ u ∈ b ++ a, ∀ v ∈ rest, u.2 < v.1 := fun u hu v hv => hba u hu v (List.mem_cons_of_mem _ hv)
    rw [List.foldl_cons]
    by_cases h1 : t.2 < s.1
    · rw [show addStep (b, s, a) t = (b ++ [t], s, a) by simp [addStep, h1]]
      obtain ⟨q1, q2⟩ := addRun_ok rest (b ++ [t]) s a (by
        intro u hu v hv
        simp only [List.mem_append, List.mem_singleton] at hu
        rcases hu with (hu | rfl) | hu
        · exact hbar u (List.mem_append_left _ hu) v hv
        · exact r2 v hv
        · exact hbar u (List.mem_append_right _ hu) v hv) r3 (by
          rw [asc_append, asc_cons]
          exact ⟨hb, ⟨r1, by simp, Asc.nil⟩, fun u hu v hv => by rw [List.mem_singleton] at hv; subst hv; exact hba0 u (List.mem_append_left _ hu)⟩) (by
          intro u hu
          rw [List.mem_append, List.mem_singleton] at hu
          rcases hu with hu | rfl
          · exact hbs u hu
          · exact h1) hs ha has
      refine ⟨q1, fun x => ?_⟩
      rw [q2, hasZ_append, hasZ_cons t rest, hasZ_cons, hasZ_nil]
      cases hasZ b x <;> cases inS t x <;> cases inS s x <;> cases hasZ a x <;> rfl
    · by_cases h2 : s.2 < t.1
      · rw [show addStep (b, s, a) t = (b, s, a ++ [t]) by simp [addStep, h1, h2]]
        obtain ⟨q1, q2⟩ := addRun_ok rest b s (a ++ [t]) (by
          intro u hu v hv
          simp only [List.mem_append, List.mem_singleton] at hu
          rcases hu with hu | hu | rfl
          · exact hbar u (List.mem_append_left _ hu) v hv
          · exact hbar u (List.mem_append_right _ hu) v hv
          · exact r2 v hv) r3 hb hbs hs (by
            rw [asc_append, asc_cons]
            exact ⟨ha, ⟨r1, by simp, Asc.nil⟩, fun u hu v hv => by rw [List.mem_singleton] at hv; subst hv; exact hba0 u (List.mem_append_right _ hu)⟩) (by
            intro u hu
            rw [List.mem_append, List.mem_singleton] at hu
            rcases hu with hu | rfl
            · exact has u hu
            · exact h2)
        refine ⟨q1, fun x => ?_⟩
        rw [q2, hasZ_append, hasZ_cons t rest, hasZ_cons, hasZ_nil]
        cases hasZ b x <;> cases inS t x <;> cases inS s x <;> cases hasZ a x <;> rfl
      · rw [show addStep (b, s, a) t = (b, (min s.1 t.1, max s.2 t.2), a) by simp [addStep, h1, h2]]
        have ha0 : a = [] := by
          cases a with
          | nil => rfl
          | cons u a' =>
            have g1 := has u (List.mem_cons_self ..)
            have g2 := hba0 u (List.mem_append_right _ (List.mem_cons_self ..))
            have g3 := ha.1 u (List.mem_cons_self ..)
            omega
        subst ha0
        obtain ⟨q1, q2⟩ := addRun_ok rest b (min s.1 t.1, max s.2 t.2) [] hbar r3 hb (by
          intro u hu
          have g1 := hbs u hu
          have g2 := hba0 u (List.mem_append_left _ hu)
          show u.2 < min s.1 t.1
          omega) (by show min s.1 t.1 < max s.2 t.2; omega) Asc.nil (by simp)
        refine ⟨q1, fun x => ?_⟩
        rw [q2, hasZ_cons, hasZ_nil]
        have : inS (min s.1 t.1, max s.2 t.2) x = (inS s x || inS t x) := by
          rw [Bool.eq_iff_iff, Bool.or_eq_true, inS_iff, inS_iff, inS_iff]
          show min s.1 t.1 ≤ x ∧ x < max s.2 t.2 ↔ _
          omega
        rw [this]
        cases hasZ b x <;> cases inS t x <;> cases inS s x <;> rfl

theorem addS_asc {l : List (Int × Int)} {s : Int × Int} (h : Asc l) : Asc (addS l s) := by
  unfold addS
  by_cases hs : s.2 ≤ s.1
  · rw [if_pos hs]; exact h
  · rw [if_neg hs]
    exact (addRun_ok l [] s [] (by simp) h Asc.nil (by simp) (by omega) Asc.nil (by simp)).1
theorem addS_has {l : List (Int × Int)} {s : Int × Int} (h : Asc l) (x : Int) : hasZ (addS l s) x = (hasZ l x || inS s x) := by
  unfold addS
  by_cases hs : s.2 ≤ s.1
  · rw [if_pos hs]
    have : inS s x = false := by rw [← Bool.not_eq_true, inS_iff]; omega
    rw [this, Bool.or_false]
  · rw [if_neg hs, (addRun_ok l [] s [] (by simp) h Asc.nil (by simp) (by omega) Asc.nil (by simp)).2]
    simp [hasZ_nil, Bool.or_comm]
theorem addAll_ok : ∀ (l acc : List (Int × Int)), Asc acc → Asc (l.foldl addS acc) ∧ ∀ x, hasZ (l.foldl addS acc) x = (hasZ acc x || hasZ l x)
  | [], acc, h => ⟨h, fun x => by simp [hasZ_nil]⟩
  | s :: l, acc, h => by
    obtain ⟨q1, q2⟩ := addAll_ok l (addS acc s) (addS_asc h)
    refine ⟨q1, fun x => ?_⟩
    rw [List.foldl_cons, q2, addS_has h, hasZ_cons, Bool.or_assoc]
theorem nrmZ_asc (l : List (Int × Int)) : Asc (nrmZ l) := (addAll_ok l [] Asc.nil).1
theorem nrmZ_has (l : List (Int × Int)) (x : Int) : hasZ (nrmZ l) x = hasZ l x := by
  unfold nrmZ; rw [(addAll_ok l [] Asc.nil).2, hasZ_nil, Bool.false_or]
theorem nrmZ_eq {l r : List (Int × Int)} (h : Asc r) (hx : ∀ x, hasZ r x = hasZ l x) : r = nrmZ l :=
  asc_ext _ _ h (nrmZ_asc l) fun x => by rw [nrmZ_has, hx]
theorem nrmZ_of {l : List (Int × Int)} (h : Asc l) : nrmZ l = l := (nrmZ_eq h fun _ => rfl).symm

/- Union, intersection, difference in the reference's way. -/
def uniZ (a b : List (Int × Int)) : List (Int × Int) := b.foldl addS (nrmZ a)
def intRow (b : List (Int × Int)) (acc : List (Int × Int)) (s : Int × Int) : List (Int × Int) := b.foldl (fun acc t => addS acc (max s.1 t.1, min s.2 t.2)) acc
def intZ (a b : List (Int × Int)) : List (Int × Int) := a.foldl (intRow b) []
def subRow (t : Int × Int) (rest : List (Int × Int)) (s : Int × Int) : List (Int × Int) := addS (addS rest (s.1, min s.2 t.1)) (max s.1 t.2, s.2)
def subOne (out : List (Int × Int)) (t : Int × Int) : List (Int × Int) := if t.2 ≤ t.1 then out else out.foldl (subRow t) []
def subZ (a b : List (Int × Int)) : List (Int × Int) := b.foldl subOne (nrmZ a)

theorem uniZ_asc (a b : List (Int × Int)) : Asc (uniZ a b) := (addAll_ok b _ (nrmZ_asc a)).1
theorem uniZ_has (a b : List (Int × Int)) (x : Int) : hasZ (uniZ a b) x = (hasZ a x || hasZ b x) := by
  unfold uniZ; rw [(addAll_ok b _ (nrmZ_asc a)).2, nrmZ_has]
theorem intRow_ok (s : Int × Int) : ∀ (b acc : List (Int × Int)), Asc acc → Asc (intRow b acc s) ∧ ∀ x, hasZ (intRow b acc s) x = (hasZ acc x || (inS s x && hasZ b x))
  | [], acc, h => ⟨h, fun x => by simp [intRow, hasZ_nil]⟩
  | t :: b, acc, h => by
    obtain ⟨q1, q2⟩ := intRow_ok s b (addS acc (max s.1 t.1, min s.2 t.2)) (addS_asc h)
    refine ⟨q1, fun x => ?_⟩
    rw [show intRow (t :: b) acc s = intRow b (addS acc (max s.1 t.1, min s.2 t.2)) s from rfl, q2, addS_has h, hasZ_cons]
    have : inS (max s.1 t.1, min s.2 t.2) x = (inS s x && inS t x) := by
      rw [Bool.eq_iff_iff, Bool.and_eq_true, inS_iff, inS_iff, inS_iff]
      show max s.1 t.1 ≤ x ∧ x < min s.2 t.2 ↔ _
      omega
    rw [this]
    cases hasZ acc x <;> cases inS s x <;> cases inS t x <;> rfl
theorem intAll_ok (b : List (Int × Int)) : ∀ (a acc : List (Int × Int)), Asc acc → Asc (a.foldl (intRow b) acc) ∧ ∀ x, hasZ (a.foldl (intRow b) acc) x = (hasZ acc x || (hasZ a x && hasZ b x))
  | [], acc, h => ⟨h, fun x => by simp [hasZ_nil]⟩
  | s :: a, acc, h => by
    obtain ⟨p1, p2⟩ := intRow_ok s b acc h
    obtain ⟨q1, q2⟩ := intAll_ok b a (intRow b acc s) p1
    refine ⟨q1, fun x => ?_⟩
    rw [List.foldl_cons, q2, p2, hasZ_cons]
    cases hasZ acc x <;> cases inS s x <;> cases hasZ a x <;> cases hasZ b x <;> rfl
theorem intZ_asc (a b : List (Int × Int)) : Asc (intZ a b) := (intAll_ok b a [] Asc.nil).1
theorem intZ_has (a b : List (Int × Int)) (x : Int) : hasZ (intZ a b) x = (hasZ a x && hasZ b x) := by
  unfold intZ; rw [(intAll_ok b a [] Asc.nil).2, hasZ_nil, Bool.false_or]
theorem subRow_ok {t : Int × Int} (ht : t.1 < t.2) : ∀ (out acc : List (Int × Int)), Asc acc → Asc (out.foldl (subRow t) acc) ∧ ∀ x, hasZ (out.foldl (subRow t) acc) x = (hasZ acc x || (hasZ out x && !inS t x))
  | [], acc, h => ⟨h, fun x => by simp [hasZ_nil]⟩
  | s :: out, acc, h => by
    have h1 : Asc (addS acc (s.1, min s.2 t.1)) := addS_asc h
    have h2 : Asc (subRow t acc s) := addS_asc h1
    obtain ⟨q1, q2⟩ := subRow_ok ht out (subRow t acc s) h2
    refine ⟨q1, fun x => ?_⟩
    rw [List.foldl_cons, q2, show hasZ (subRow t acc s) x = (hasZ acc x || inS (s.1, min s.2 t.1) x || inS (max s.1 t.2, s.2) x) by
      unfold subRow; rw [addS_has h1, addS_has h], hasZ_cons]
    have : (inS (s.1, min s.2 t.1) x || inS (max s.1 t.2, s.2) x) = (inS s x && !inS t x) := by
      rw [Bool.eq_iff_iff, Bool.or_eq_true, Bool.and_eq_true, Bool.not_eq_true', ← Bool.not_eq_true, inS_iff, inS_iff, inS_iff, inS_iff]
      show (s.1 ≤ x ∧ x < min s.2 t.1) ∨ (max s.1 t.2 ≤ x ∧ x < s.2) ↔ _
      omega
    rw [Bool.or_assoc (hasZ acc x), this]
    cases hasZ acc x <;> cases inS s x <;> cases hasZ out x <;> cases inS t x <;> rfl
theorem subAll_ok : ∀ (b out : List (Int × Int)), Asc out → Asc (b.foldl subOne out) ∧ ∀ x, hasZ (b.foldl subOne out) x = (hasZ out x && !hasZ b x)
  | [], out, h => ⟨h, fun x => by simp [hasZ_nil]⟩
  | t :: b, out, h => by
    by_cases ht : t.2 ≤ t.1
    · obtain ⟨q1, q2⟩ := subAll_ok b out h
      rw [List.foldl_cons, show subOne out t = out by simp [subOne, ht]]
      refine ⟨q1, fun x => ?_⟩
      have : inS t x = false := by rw [← Bool.not_eq_true, inS_iff]; omega
      rw [q2, hasZ_cons, this, Bool.false_or]
    · obtain ⟨p1, p2⟩ := subRow_ok (t := t) (by omega) out [] Asc.nil
      rw [List.foldl_cons, show subOne out t = out.foldl (subRow t) [] by simp [subOne, ht]]
      obtain ⟨q1, q2⟩ := subAll_ok b _ p1
      refine ⟨q1, fun x => ?_⟩
      rw [q2, p2, hasZ_nil, hasZ_cons]
      cases hasZ out x <;> cases inS t x <;> cases hasZ b x <;> rfl
theorem subZ_asc (a b : List (Int × Int)) : Asc (subZ a b) := (subAll_ok b _ (nrmZ_asc a)).1
theorem subZ_has (a b : List (Int × Int)) (x : Int) : hasZ (subZ a b) x = (hasZ a x && !hasZ b x) := by
  unfold subZ; rw [(subAll_ok b _ (nrmZ_asc a)).2, nrmZ_has]

/- Bounds. -/
def Bd (l : List (Int × Int)) : Prop := ∀ s ∈ l, -9223372036854775808 ≤ s.1 ∧ s.1 ≤ 9223372036854775807 ∧ -9223372036854775808 ≤ s.2 ∧ s.2 ≤ 9223372036854775807
theorem Bd.has {l : List (Int × Int)} (h : Bd l) {x : Int} (hx : hasZ l x = true) : -9223372036854775808 ≤ x ∧ x < 9223372036854775807 := by
  obtain ⟨s, hs, h1, h2⟩ := hasZ_iff.1 hx
  have := h s hs
  omega
theorem Bd.of_has {l : List (Int × Int)} (h : Asc l) (hx : ∀ x, hasZ l x = true → -9223372036854775808 ≤ x ∧ x < 9223372036854775807) : Bd l := by
  intro s hs
  have h1 := h.1 s hs
  have h2 := hx s.1 (hasZ_iff.2 ⟨s, hs, by omega, by omega⟩)
  have h3 := hx (s.2 - 1) (hasZ_iff.2 ⟨s, hs, by omega, by omega⟩)
  omega
theorem Bd.nrm {l : List (Int × Int)} (h : Bd l) : Bd (nrmZ l) := .of_has (nrmZ_asc l) fun x hx => h.has (by rwa [nrmZ_has] at hx)
theorem Bd.uni {a b : List (Int × Int)} (ha : Bd a) (hb : Bd b) : Bd (uniZ a b) := .of_has (uniZ_asc a b) fun x hx => by
  rw [uniZ_has, Bool.or_eq_true] at hx
  rcases hx with h | h
  · exact ha.has h
  · exact hb.has h
theorem Bd.int {a b : List (Int × Int)} (ha : Bd a) : Bd (intZ a b) := .of_has (intZ_asc a b) fun x hx => by
  rw [intZ_has, Bool.and_eq_true] at hx; exact ha.has hx.1
theorem Bd.sub {a b : List (Int × Int)} (ha : Bd a) : Bd (subZ a b) := .of_has (subZ_asc a b) fun x hx => by
  rw [subZ_has, Bool.and_eq_true] at hx; exact ha.has hx.1
theorem Bd.nil : Bd [] := by intro s hs; cases hs
theorem Bd.take {l : List (Int × Int)} (h : Bd l) (k : Nat) : Bd (l.take k) := fun s hs => h s (List.mem_of_mem_take hs)

/- The code's way: a span that begins no earlier joins. -/
def joinZ (l : List (Int × Int)) (s : Int × Int) : List (Int × Int) :=
  match l.getLast? with
  | none => l ++ [s]
  | some t => if s.1 ≤ t.2 then l.dropLast ++ [(t.1, max t.2 s.2)] else l ++ [s]
theorem joinZ_nil (s : Int × Int) : joinZ [] s = [s] := rfl
theorem joinZ_last (l : List (Int × Int)) (t s : Int × Int) : joinZ (l ++ [t]) s = if s.1 ≤ t.2 then l ++ [(t.1, max t.2 s.2)] else l ++ [t] ++ [s] := by
  unfold joinZ; rw [List.getLast?_concat, List.dropLast_concat]
theorem joinZ_ok {l : List (Int × Int)} {s : Int × Int} (h : Asc l) (hs : s.1 < s.2) (hl : ∀ t ∈ l, t.1 ≤ s.1) : Asc (joinZ l s) ∧ (∀ x, hasZ (joinZ l s) x = (hasZ l x || inS s x)) ∧ (∀ t ∈ joinZ l s, t.1 ≤ s.1) ∧ (joinZ l s).length ≤ l.length + 1 := by
  rcases List.eq_nil_or_concat l with rfl | ⟨k, t, rfl⟩
  · rw [joinZ_nil]
    exact ⟨asc_cons.2 ⟨hs, by simp, Asc.nil⟩, fun x => by simp [hasZ], by simp, by simp⟩
  · rw [List.concat_eq_append] at *
    rw [joinZ_last]
    obtain ⟨k1, k2, k3⟩ := asc_append.1 h
    have ht := (asc_cons.1 k2).1
    have hts := hl t (by simp)
    by_cases hc : s.1 ≤ t.2
    · rw [if_pos hc]
      refine ⟨asc_append.2 ⟨k1, asc_cons.2 ⟨by show t.1 < max t.2 s.2; omega, by simp, Asc.nil⟩, ?_⟩, fun x => ?_, ?_, by simp⟩
      · intro u hu v hv
        rw [List.mem_singleton] at hv; subst hv
        exact k3 u hu t (by simp)
      · rw [hasZ_append, hasZ_append, hasZ_cons, hasZ_cons, hasZ_nil, Bool.or_false, Bool.or_false, Bool.or_assoc]
        congr 1
        rw [Bool.eq_iff_iff, Bool.or_eq_true, inS_iff, inS_iff, inS_iff]
        show t.1 ≤ x ∧ x < max t.2 s.2 ↔ _
        omega
      · intro u hu
        rw [List.mem_append, List.mem_singleton] at hu
        rcases hu with hu | rfl
        · exact hl u (by simp [hu])
        · exact hts
    · rw [if_neg hc]
      refine ⟨asc_append.2 ⟨h, asc_cons.2 ⟨hs, by simp, Asc.nil⟩, ?_⟩, fun x => ?_, ?_, by simp⟩
      · intro u hu v hv
        rw [List.mem_singleton] at hv; subst hv
        rw [List.mem_append, List.mem_singleton] at hu
        rcases hu with hu | rfl
        · have := k3 u hu t (by simp); omega
        · omega
      · rw [hasZ_append _ [s], hasZ_cons, hasZ_nil, Bool.or_false]
      · intro u hu
        rw [List.mem_append, List.mem_singleton] at hu
        rcases hu with hu | rfl
        · exact hl u hu
        · omega
theorem joinAll_ok : ∀ (l acc : List (Int × Int)), Asc acc → (∀ s ∈ l, s.1 < s.2) → l.Pairwise (fun s t => s.1 ≤ t.1) → (∀ u ∈ acc, ∀ t ∈ l, u.1 ≤ t.1) → Asc (l.foldl joinZ acc) ∧ (∀ x, hasZ (l.foldl joinZ acc) x = (hasZ acc x || hasZ l x))
  | [], acc, h, _, _, _ => ⟨h, fun x => by simp [hasZ_nil]⟩
  | s :: l, acc, h, hn, hp, hl => by
    rw [List.pairwise_cons] at hp
    obtain ⟨j1, j2, j3, -⟩ := joinZ_ok h (hn s (List.mem_cons_self ..)) (fun t ht => hl t ht s (List.mem_cons_self ..))
    obtain ⟨q1, q2⟩ := joinAll_ok l (joinZ acc s) j1 (fun t ht => hn t (List.mem_cons_of_mem _ ht)) hp.2 (fun u hu t ht => by
      have := j3 u hu; have := hp.1 t ht; omega)
    refine ⟨q1, fun x => ?_⟩
    rw [List.foldl_cons, q2, j2, hasZ_cons, Bool.or_assoc]

/-- The code's Normal. -/
theorem joinAll_nrm {l f d : List (Int × Int)} (hf : f = l.filter fun s => !decide (s.2 ≤ s.1)) (hp : d.Perm f) (hs : d.Pairwise fun s t => s.1 ≤ t.1) : d.foldl joinZ [] = nrmZ l := by
  have hmem : ∀ s ∈ d, s.1 < s.2 := fun s hs => by
    have := hp.mem_iff.1 hs
    rw [hf, List.mem_filter] at this
    simpa using this.2
  obtain ⟨q1, q2⟩ := joinAll_ok d [] Asc.nil hmem hs (by simp)
  refine nrmZ_eq q1 fun x => ?_
  rw [q2, hasZ_nil, Bool.false_or, Bool.eq_iff_iff, hasZ_iff, hasZ_iff]
  constructor
  · rintro ⟨s, h1, h2, h3⟩
    have := hp.mem_iff.1 h1
    rw [hf, List.mem_filter] at this
    exact ⟨s, this.1, h2, h3⟩
  · rintro ⟨s, h1, h2, h3⟩
    refine ⟨s, hp.mem_iff.2 ?_, h2, h3⟩
    rw [hf, List.mem_filter]
    exact ⟨h1, by simp; omega⟩
end Go.Proofs.Ytjocgipjmcnjfaa
