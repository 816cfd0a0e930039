import Derived.Lib.Strings
import Derived.Test.YtfannkpnmaeljaaGreatDoorGSp1
import Derived.Test.YtfannkpnmaeljaaGreatDoorGSp2
import Derived.Deep.RegionHeld3
set_option linter.unusedVariables false
set_option linter.unusedSimpArgs false
/- Clauses as plain data: validity, lines, parsing; the plain mathematics. -/
namespace Go.Proofs.YtfannkpnmaeljaaGreatDoor

structure Cl where
  k : Int
  it : Int
  fr : Int
  to : Int
  rg : Int
  n : Int
  a : Int
  b : Int
deriving DecidableEq, Inhabited

def Cl.zero : Cl := ⟨0, 0, 0, 0, 0, 0, 0, 0⟩
def Cl.li (c : Cl) : List Int := [c.k, c.it, c.fr, c.to, c.rg, c.n, c.a, c.b]
def Cl.get (c : Cl) : Nat → Int
  | 0 => c.k | 1 => c.it | 2 => c.fr | 3 => c.to | 4 => c.rg | 5 => c.n | 6 => c.a | _ => c.b
def Cl.put (c : Cl) (i : Nat) (v : Int) : Cl :=
  match i with
  | 0 => { c with k := v } | 1 => { c with it := v } | 2 => { c with fr := v } | 3 => { c with to := v }
  | 4 => { c with rg := v } | 5 => { c with n := v } | 6 => { c with a := v } | _ => { c with b := v }

def frm (n lo hi : Int) : Bool := decide (lo ≤ n) && decide (n ≤ hi)
def mnt (s : Int) : Bool := frm s 0 86399 && decide (s % 60 = 0)
def tgt (c : Cl) : Bool := frm c.it 1 4611686018427387903 && frm c.rg 1 255
def zer (l : List Int) : Bool := l.all (· == 0)
def vldZ (c : Cl) : Bool :=
  if c.k = 1 ∨ c.k = 2 then tgt c && decide (0 ≤ c.fr) && decide (c.fr < c.to) && decide (c.to ≤ 10000000000) && zer [c.n, c.a, c.b]
  else if c.k = 3 then tgt c && frm c.n 0 1000 && zer [c.fr, c.to, c.a, c.b]
  else if c.k = 4 then tgt c && frm c.n 0 10000000000 && zer [c.fr, c.to, c.a, c.b]
  else if c.k = 5 then frm c.a 1 200 && frm c.b 1 200 && !decide (c.a = c.b) && frm c.n 0 86400 && zer [c.it, c.fr, c.to, c.rg]
  else if c.k = 6 then frm c.a 1 3 && (mnt c.fr && mnt c.to && !decide (c.fr = c.to)) && zer [c.it, c.rg, c.n, c.b]
  else false

/-- bit r of a set of regions -/
def bitZ (rg : Int) (r : Nat) : Bool := decide (rg / 2 ^ r % 2 = 1)
def conZ (rg r : Int) : Bool := frm r 0 7 && bitZ rg r.toNat

theorem frm_iff {n lo hi : Int} : frm n lo hi = true ↔ lo ≤ n ∧ n ≤ hi := by simp [frm]
end Go.Proofs.YtfannkpnmaeljaaGreatDoor

/- What clauses say of an item, as plain data. -/
namespace Go.Proofs.YtfannkpnmaeljaaGreatDoor

/-- A clause counts for an item and a region. -/
def abtZ (c : Cl) (it r : Int) : Bool := decide (c.it = it) && conZ c.rg r && vldZ c
def stepZ (g : List (Int × Int)) (c : Cl) : List (Int × Int) :=
  if c.k = 1 then uniZ g [(c.fr, c.to)] else if c.k = 2 then subZ g [(c.fr, c.to)] else g
def spnZ (l : List Cl) (it r : Int) : List (Int × Int) := (l.filter fun c => abtZ c it r).foldl stepZ []
def lastZ (l : List Cl) (k it r z : Int) : Int := (l.filter fun c => abtZ c it r).foldl (fun n c => if c.k = k then c.n else n) z
def pairB (c : Cl) (a b : Int) : Bool := (decide (c.a = a) && decide (c.b = b)) || (decide (c.a = b) && decide (c.b = a))
def gapZ (l : List Cl) (a b : Int) : Int := l.foldl (fun g c => if (pairB c a b && decide (c.k = 5) && vldZ c) = true then max g c.n else g) 0
def wshZ (l : List Cl) (rt : Int) : List (Int × Int) := (l.filter fun c => decide (c.k = 6) && decide (c.a ≤ rt) && vldZ c).map fun c => (c.fr, c.to)

/-! ### A window laid into a valid list -/
def i0Z (l : List (Int × Int)) (s : Int × Int) : Nat := (List.range l.length).countP fun i => !decide (s.1 ≤ (l.getD i (0, 0)).2)
def i1Z (l : List (Int × Int)) (s : Int × Int) : Nat := (List.range l.length).countP fun i => !decide (s.2 < (l.getD i (0, 0)).1)

/-- The number of the first places at which a growing test does not hold. -/
theorem countP_cut (p : Nat → Bool) : ∀ (n : Nat), (∀ a b, a ≤ b → b < n → p a = true → p b = true) →
    (∀ i, i < (List.range n).countP (fun i => !p i) → p i = false) ∧ (∀ i, (List.range n).countP (fun i => !p i) ≤ i → i < n → p i = true) ∧ (List.range n).countP (fun i => !p i) ≤ n
  | 0, _ => ⟨fun i h => by simp at h, fun i _ h => by omega, by simp⟩
  | n + 1, hm => by
    obtain ⟨h1, h2, h3⟩ := countP_cut p n fun a b hab hb => hm a b hab (by omega)
    have e : (List.range (n + 1)).countP (fun i => !p i) = (List.range n).countP (fun i => !p i) + if p n = true then 0 else 1 := by
      rw [List.range_succ, List.countP_append]
      cases h : p n <;> simp [h]
    rw [e]
    by_cases hn : p n = true
    · rw [if_pos hn]
      refine ⟨fun i hi => h1 i (by omega), fun i hi hl => ?_, by omega⟩
      rcases (by omega : i < n ∨ i = n) with g | rfl
      · exact h2 i (by omega) g
      · exact hn
    · rw [if_neg hn]
      have all : ∀ i, i < n → p i = false := fun i hi => by
        by_cases h : p i = true
        · exact absurd (hm i n (by omega) (by omega) h) hn
        · simpa using h
      have full : (List.range n).countP (fun i => !p i) = n := by
        rcases Nat.lt_or_ge ((List.range n).countP (fun i => !p i)) n with g | g
        · have := h2 _ (Nat.le_refl _) g
          rw [all _ g] at this; cases this
        · omega
      rw [full]
      refine ⟨fun i hi => ?_, fun i h1 h2 => by omega, by omega⟩
      rcases (by omega : i < n ∨ i = n) with g | rfl
      · exact all i g
      · simpa using hn

theorem asc_at {l : List (Int × Int)} (h : Asc l) {i j : Nat} (hij : i < j) (hj : j < l.length) : (l.getD i (0, 0)).2 < (l.getD j (0, 0)).1 := by
  have := List.pairwise_iff_getElem.1 h.2 i j (by omega) hj hij
  simpa [List.getD_eq_getElem?_getD, List.getElem?_eq_getElem (show i < l.length by omega), List.getElem?_eq_getElem hj] using this
theorem asc_in {l : List (Int × Int)} (h : Asc l) {i : Nat} (hi : i < l.length) : (l.getD i (0, 0)).1 < (l.getD i (0, 0)).2 := by
  have := h.1 (l[i]) (List.getElem_mem hi)
  simpa [List.getD_eq_getElem?_getD, List.getElem?_eq_getElem hi] using this
theorem mono0 {l : List (Int × Int)} (h : Asc l) (s : Int × Int) : ∀ a b, a ≤ b → b < l.length → decide (s.1 ≤ (l.getD a (0, 0)).2) = true → decide (s.1 ≤ (l.getD b (0, 0)).2) = true := fun a b hab hb h1 => by
  rcases (by omega : a = b ∨ a < b) with rfl | g
  · exact h1
  · have := asc_at h g hb; have := asc_in h hb
    simp only [decide_eq_true_eq] at h1 ⊢
    omega
theorem mono1 {l : List (Int × Int)} (h : Asc l) (s : Int × Int) : ∀ a b, a ≤ b → b < l.length → decide (s.2 < (l.getD a (0, 0)).1) = true → decide (s.2 < (l.getD b (0, 0)).1) = true := fun a b hab hb h1 => by
  rcases (by omega : a = b ∨ a < b) with rfl | g
  · exact h1
  · have := asc_at h g hb; have := asc_in h (i := a) (by omega)
    simp only [decide_eq_true_eq] at h1 ⊢
    omega
theorem i0_spec {l : List (Int × Int)} (h : Asc l) (s : Int × Int) : (∀ i, i < i0Z l s → (l.getD i (0, 0)).2 < s.1) ∧ (∀ i, i0Z l s ≤ i → i < l.length → s.1 ≤ (l.getD i (0, 0)).2) ∧ i0Z l s ≤ l.length := by
  obtain ⟨h1, h2, h3⟩ := countP_cut (fun i => decide (s.1 ≤ (l.getD i (0, 0)).2)) l.length (mono0 h s)
  refine ⟨fun i hi => ?_, fun i hi hl => by simpa using h2 i hi hl, h3⟩
  have := h1 i hi
  simp only [decide_eq_false_iff_not] at this
  omega
theorem i1_spec {l : List (Int × Int)} (h : Asc l) (s : Int × Int) : (∀ i, i < i1Z l s → (l.getD i (0, 0)).1 ≤ s.2) ∧ (∀ i, i1Z l s ≤ i → i < l.length → s.2 < (l.getD i (0, 0)).1) ∧ i1Z l s ≤ l.length := by
  obtain ⟨h1, h2, h3⟩ := countP_cut (fun i => decide (s.2 < (l.getD i (0, 0)).1)) l.length (mono1 h s)
  refine ⟨fun i hi => ?_, fun i hi hl => by simpa using h2 i hi hl, h3⟩
  have := h1 i hi
  simp only [decide_eq_false_iff_not] at this
  omega
theorem i0_le {l : List (Int × Int)} (h : Asc l) {s : Int × Int} (hs : s.1 < s.2) : i0Z l s ≤ i1Z l s := by
  obtain ⟨a1, a2, a3⟩ := i0_spec h s
  obtain ⟨b1, b2, b3⟩ := i1_spec h s
  rcases Nat.lt_or_ge (i1Z l s) (i0Z l s) with g | g
  · have q1 := a1 _ g
    have q2 := b2 _ (Nat.le_refl _) (by omega)
    have q3 := asc_in h (i := i1Z l s) (by omega)
    omega
  · exact g

def midZ (l : List (Int × Int)) (s : Int × Int) : List (Int × Int) := (l.take (i1Z l s)).drop (i0Z l s)
def chgZ (f : List (Int × Int) → List (Int × Int) → List (Int × Int)) (l : List (Int × Int)) (s : Int × Int) : List (Int × Int) :=
  l.take (i0Z l s) ++ f (midZ l s) [s] ++ l.drop (i1Z l s)

theorem parts3 {l : List (Int × Int)} (h : Asc l) {s : Int × Int} (hs : s.1 < s.2) : l = l.take (i0Z l s) ++ midZ l s ++ l.drop (i1Z l s) := by
  have hle := i0_le h hs
  unfold midZ
  have e : l.take (i0Z l s) = (l.take (i1Z l s)).take (i0Z l s) := by rw [List.take_take, Nat.min_eq_left hle]
  rw [e, List.take_append_drop, List.take_append_drop]
theorem mem_take_at {l : List (Int × Int)} {k : Nat} {u : Int × Int} (h : u ∈ l.take k) : ∃ i, i < k ∧ i < l.length ∧ u = l.getD i (0, 0) := by
  obtain ⟨i, hi, e⟩ := List.mem_iff_getElem.1 h
  rw [List.length_take] at hi
  refine ⟨i, by omega, by omega, ?_⟩
  rw [List.getElem_take] at e
  simp [List.getD_eq_getElem?_getD, List.getElem?_eq_getElem (show i < l.length by omega), e]
theorem mem_drop_at {l : List (Int × Int)} {k : Nat} {u : Int × Int} (h : u ∈ l.drop k) : ∃ i, k ≤ i ∧ i < l.length ∧ u = l.getD i (0, 0) := by
  obtain ⟨i, hi, e⟩ := List.mem_iff_getElem.1 h
  rw [List.length_drop] at hi
  refine ⟨k + i, by omega, by omega, ?_⟩
  rw [List.getElem_drop] at e
  simp [List.getD_eq_getElem?_getD, List.getElem?_eq_getElem (show k + i < l.length by omega), e]

/-- The members of a valid list lie between bounds that its integers keep. -/
theorem asc_lo {r : List (Int × Int)} (h : Asc r) {z : Int} (hz : ∀ x, hasZ r x = true → z ≤ x) : ∀ u ∈ r, z ≤ u.1 := fun u hu => hz _ (hasZ_iff.2 ⟨u, hu, by omega, h.1 u hu⟩)
theorem asc_hi {r : List (Int × Int)} (h : Asc r) {z : Int} (hz : ∀ x, hasZ r x = true → x < z) : ∀ u ∈ r, u.2 ≤ z := fun u hu => by
  have := hz (u.2 - 1) (hasZ_iff.2 ⟨u, hu, by have := h.1 u hu; omega, by omega⟩)
  omega

theorem chg_ok (f : List (Int × Int) → List (Int × Int) → List (Int × Int)) (g : Bool → Bool → Bool) (hg0 : g false false = false) (hgs : ∀ a, g a false = a)
    (hA : ∀ a b, Asc (f a b)) (hH : ∀ a b x, hasZ (f a b) x = g (hasZ a x) (hasZ b x))
    {l : List (Int × Int)} (h : Asc l) {s : Int × Int} (hs : s.1 < s.2) : Asc (chgZ f l s) ∧ ∀ x, hasZ (chgZ f l s) x = g (hasZ l x) (hasZ [s] x) := by
  obtain ⟨a1, a2, a3⟩ := i0_spec h s
  obtain ⟨b1, b2, b3⟩ := i1_spec h s
  have hle := i0_le h hs
  have e3 := parts3 h hs
  have hp := h
  rw [e3, asc_append, asc_append] at hp
  obtain ⟨⟨p1, p2, p3⟩, p4, p5⟩ := hp
  have L : ∀ u ∈ l.take (i0Z l s), u.2 < s.1 := fun u hu => by obtain ⟨i, hi, -, rfl⟩ := mem_take_at hu; exact a1 i hi
  have R : ∀ u ∈ l.drop (i1Z l s), s.2 < u.1 := fun u hu => by obtain ⟨i, hi, hl, rfl⟩ := mem_drop_at hu; exact b2 i hi hl
  have one : ∀ x, hasZ [s] x = inS s x := fun x => by simp [hasZ]
  -- the middle's integers
  have M : ∀ x, hasZ (f (midZ l s) [s]) x = true → hasZ (midZ l s) x = true ∨ inS s x = true := fun x hx => by
    rw [hH, one] at hx
    cases h1 : hasZ (midZ l s) x
    · cases h2 : inS s x
      · rw [h1, h2, hg0] at hx; cases hx
      · exact Or.inr rfl
    · exact Or.inl rfl
  have lo : ∀ u ∈ l.take (i0Z l s), ∀ v ∈ f (midZ l s) [s], u.2 < v.1 := fun u hu v hv => by
    have := asc_lo (hA (midZ l s) [s]) (z := u.2 + 1) (fun x hx => by
      rcases M x hx with hx | hx
      · obtain ⟨t, ht, t1, t2⟩ := hasZ_iff.1 hx
        have := p3 u hu t ht; omega
      · have := inS_iff.1 hx; have := L u hu; omega) v hv
    omega
  have hi : ∀ v ∈ f (midZ l s) [s], ∀ t ∈ l.drop (i1Z l s), v.2 < t.1 := fun v hv t ht => by
    have := asc_hi (hA (midZ l s) [s]) (z := t.1 - 1) (fun x hx => by
      rcases M x hx with hx | hx
      · obtain ⟨u, hu, t1, t2⟩ := hasZ_iff.1 hx
        have := p5 u (List.mem_append_right _ hu) t ht; omega
      · have := inS_iff.1 hx; have := R t ht; omega) v hv
    omega
  constructor
  · unfold chgZ
    rw [asc_append, asc_append]
    refine ⟨⟨p1, hA _ _, lo⟩, p4, fun u hu t ht => ?_⟩
    rcases List.mem_append.1 hu with hu | hu
    · exact p5 u (List.mem_append_left _ hu) t ht
    · exact hi u hu t ht
  · intro x
    have e4 : hasZ l x = (hasZ (l.take (i0Z l s)) x || hasZ (midZ l s) x || hasZ (l.drop (i1Z l s)) x) := by
      conv => lhs; rw [e3]
      rw [hasZ_append, hasZ_append]
    unfold chgZ
    rw [hasZ_append, hasZ_append, hH, e4, one]
    cases hx : inS s x
    · rw [hgs, hgs]
    · have hx' := inS_iff.1 hx
      have z1 : hasZ (l.take (i0Z l s)) x = false := hasZ_no.2 fun u hu => by have := L u hu; omega
      have z2 : hasZ (l.drop (i1Z l s)) x = false := hasZ_no.2 fun u hu => by have := R u hu; omega
      rw [z1, z2]; simp

theorem chg_uni {l : List (Int × Int)} (h : Asc l) {s : Int × Int} (hs : s.1 < s.2) : chgZ uniZ l s = uniZ l [s] := by
  obtain ⟨h1, h2⟩ := chg_ok uniZ (fun a b => a || b) rfl (by simp) uniZ_asc uniZ_has h hs
  exact asc_ext _ _ h1 (uniZ_asc _ _) fun x => by rw [h2, uniZ_has]
theorem chg_sub {l : List (Int × Int)} (h : Asc l) {s : Int × Int} (hs : s.1 < s.2) : chgZ subZ l s = subZ l [s] := by
  obtain ⟨h1, h2⟩ := chg_ok subZ (fun a b => a && !b) rfl (by simp) subZ_asc subZ_has h hs
  exact asc_ext _ _ h1 (subZ_asc _ _) fun x => by rw [h2, subZ_has]
end Go.Proofs.YtfannkpnmaeljaaGreatDoor

/- How long a list of spans can grow; what Spans keeps. -/
namespace Go.Proofs.YtfannkpnmaeljaaGreatDoor

def endsL : List (Int × Int) → List Int
  | [] => []
  | s :: l => s.1 :: s.2 :: endsL l
theorem endsL_len : ∀ l : List (Int × Int), (endsL l).length = 2 * l.length
  | [] => rfl
  | s :: l => by show (endsL l).length + 1 + 1 = 2 * (l.length + 1); rw [endsL_len l]; omega
theorem endsL_mem : ∀ {l : List (Int × Int)} {x : Int}, x ∈ endsL l ↔ ∃ t ∈ l, x = t.1 ∨ x = t.2
  | [], x => by simp [endsL]
  | s :: l, x => by
    show x ∈ s.1 :: s.2 :: endsL l ↔ _
    rw [List.mem_cons, List.mem_cons, endsL_mem]
    constructor
    · rintro (h | h | ⟨t, ht, h⟩)
      · exact ⟨s, by simp, .inl h⟩
      · exact ⟨s, by simp, .inr h⟩
      · exact ⟨t, by simp [ht], h⟩
    · rintro ⟨t, ht, h⟩
      rcases List.mem_cons.1 ht with rfl | ht
      · rcases h with h | h
        · exact .inl h
        · exact .inr (.inl h)
      · exact .inr (.inr ⟨t, ht, h⟩)
theorem endsL_sorted : ∀ {l : List (Int × Int)}, Asc l → (endsL l).Pairwise (· < ·)
  | [], _ => List.Pairwise.nil
  | s :: l, h => by
    obtain ⟨h1, h2, h3⟩ := asc_cons.1 h
    have hb : ∀ x ∈ endsL l, s.2 < x := fun x hx => by
      obtain ⟨t, ht, e⟩ := endsL_mem.1 hx
      have := h2 t ht
      have := h3.1 t ht
      omega
    refine List.Pairwise.cons (fun x hx => ?_) (List.Pairwise.cons hb (endsL_sorted h3))
    rcases List.mem_cons.1 hx with rfl | hx
    · exact h1
    · have := hb x hx; omega
theorem nodup_sub_len : ∀ {l m : List Int}, l.Pairwise (· < ·) → (∀ x ∈ l, x ∈ m) → l.length ≤ m.length
  | [], _, _, _ => Nat.zero_le _
  | a :: l, m, hn, hs => by
    obtain ⟨h1, h2⟩ := List.pairwise_cons.1 hn
    have ha := hs a (by simp)
    have he := List.length_erase_of_mem ha
    have hp := List.length_pos_of_mem ha
    have := nodup_sub_len (m := m.erase a) h2 fun x hx => (List.mem_erase_of_ne (by have := h1 x hx; omega)).2 (hs x (by simp [hx]))
    simp; omega
theorem asc_two : ∀ {l : List (Int × Int)}, Asc l → ∀ {t u : Int × Int}, t ∈ l → u ∈ l → t = u ∨ t.2 < u.1 ∨ u.2 < t.1
  | [], _, _, _, h, _ => by cases h
  | s :: l, h, t, u, ht, hu => by
    obtain ⟨h1, h2, h3⟩ := asc_cons.1 h
    rcases List.mem_cons.1 ht with e | ht' <;> rcases List.mem_cons.1 hu with f | hu'
    · exact .inl (e.trans f.symm)
    · exact .inr (.inl (e ▸ h2 u hu'))
    · exact .inr (.inr (f ▸ h2 t ht'))
    · exact asc_two h3 ht' hu'
theorem ends_turn {l : List (Int × Int)} (h : Asc l) {x : Int} (hx : x ∈ endsL l) : hasZ l x ≠ hasZ l (x - 1) := by
  obtain ⟨t, ht, e⟩ := endsL_mem.1 hx
  have h1 := h.1 t ht
  rcases e with rfl | rfl
  · rw [hasZ_iff.2 ⟨t, ht, Int.le_refl _, h1⟩, hasZ_no.2 fun u hu hc => ?_]
    · simp
    · have := h.1 u hu
      rcases asc_two h ht hu with rfl | h2 | h2 <;> omega
  · rw [show hasZ l (t.2 - 1) = true from hasZ_iff.2 ⟨t, ht, by omega, by omega⟩, hasZ_no.2 fun u hu hc => ?_]
    · simp
    · have := h.1 u hu
      rcases asc_two h ht hu with rfl | h2 | h2 <;> omega
theorem turn_ends {l : List (Int × Int)} {x : Int} (h : hasZ l x ≠ hasZ l (x - 1)) : x ∈ endsL l := by
  rw [endsL_mem]
  cases h1 : hasZ l x with
  | true =>
    have h2 : hasZ l (x - 1) = false := by rw [h1] at h; cases h3 : hasZ l (x - 1) <;> simp_all
    obtain ⟨s, hs, a, b⟩ := hasZ_iff.1 h1
    have := hasZ_no.1 h2 s hs
    exact ⟨s, hs, .inl (by omega)⟩
  | false =>
    have h2 : hasZ l (x - 1) = true := by rw [h1] at h; cases h3 : hasZ l (x - 1) <;> simp_all
    obtain ⟨s, hs, a, b⟩ := hasZ_iff.1 h2
    have := hasZ_no.1 h1 s hs
    exact ⟨s, hs, .inr (by omega)⟩
/-- A list made of two has no more spans than they have. -/
theorem made_len {r a b : List (Int × Int)} (g : Bool → Bool → Bool) (hr : Asc r) (hh : ∀ x, hasZ r x = g (hasZ a x) (hasZ b x)) : r.length ≤ a.length + b.length := by
  have h1 := nodup_sub_len (m := endsL a ++ endsL b) (endsL_sorted hr) fun x hx => by
    have ht := ends_turn hr hx
    rw [List.mem_append]
    by_cases ha : hasZ a x = hasZ a (x - 1)
    · by_cases hb : hasZ b x = hasZ b (x - 1)
      · exact absurd (by rw [hh, hh, ha, hb]) ht
      · exact .inr (turn_ends hb)
    · exact .inl (turn_ends ha)
  rw [endsL_len, List.length_append, endsL_len, endsL_len] at h1
  omega
theorem uni_len1 (a b : List (Int × Int)) : (uniZ a b).length ≤ a.length + b.length := made_len (fun x y => x || y) (uniZ_asc a b) (uniZ_has a b)
theorem sub_len1 (a b : List (Int × Int)) : (subZ a b).length ≤ a.length + b.length := made_len (fun x y => x && !y) (subZ_asc a b) (subZ_has a b)
theorem int_len1 (a b : List (Int × Int)) : (intZ a b).length ≤ a.length + b.length := made_len (fun x y => x && y) (intZ_asc a b) (intZ_has a b)

theorem abt_window {c : Cl} {it r : Int} (h : abtZ c it r = true) (hk : c.k = 1 ∨ c.k = 2) : 0 ≤ c.fr ∧ c.fr < c.to ∧ c.to ≤ 10000000000 := by
  unfold abtZ at h
  unfold vldZ at h
  rw [if_pos hk] at h
  simp only [Bool.and_eq_true, decide_eq_true_eq] at h
  omega
theorem abt_bd {c : Cl} {it r : Int} (h : abtZ c it r = true) (hk : c.k = 1 ∨ c.k = 2) : Bd [(c.fr, c.to)] := fun s hs => by
  obtain rfl := List.mem_singleton.1 hs
  have := abt_window h hk
  dsimp only
  omega
theorem step_ok {g : List (Int × Int)} {c : Cl} {it r : Int} (h : abtZ c it r = true) (ha : Asc g) (hb : Bd g) : Asc (stepZ g c) ∧ Bd (stepZ g c) ∧ (stepZ g c).length ≤ g.length + 1 := by
  unfold stepZ
  by_cases h1 : c.k = 1
  · rw [if_pos h1]
    exact ⟨uniZ_asc _ _, Bd.uni hb (abt_bd h (.inl h1)), uni_len1 _ _⟩
  · rw [if_neg h1]
    by_cases h2 : c.k = 2
    · rw [if_pos h2]
      exact ⟨subZ_asc _ _, Bd.sub hb, sub_len1 _ _⟩
    · rw [if_neg h2]
      exact ⟨ha, hb, by omega⟩
theorem steps_ok (it r : Int) : ∀ (l : List Cl) (g : List (Int × Int)), (∀ c ∈ l, abtZ c it r = true) → Asc g → Bd g → Asc (l.foldl stepZ g) ∧ Bd (l.foldl stepZ g) ∧ (l.foldl stepZ g).length ≤ g.length + l.length
  | [], g, _, ha, hb => ⟨ha, hb, by simp⟩
  | c :: l, g, h, ha, hb => by
    obtain ⟨h1, h2, h3⟩ := step_ok (h c (by simp)) ha hb
    obtain ⟨k1, k2, k3⟩ := steps_ok it r l (stepZ g c) (fun d hd => h d (by simp [hd])) h1 h2
    refine ⟨k1, k2, ?_⟩
    rw [List.foldl_cons, List.length_cons]
    omega
theorem spnZ_ok (l : List Cl) (it r : Int) : Asc (spnZ l it r) ∧ Bd (spnZ l it r) ∧ (spnZ l it r).length ≤ l.length := by
  obtain ⟨h1, h2, h3⟩ := steps_ok it r (l.filter fun c => abtZ c it r) [] (fun c hc => (List.mem_filter.1 hc).2) Asc.nil Bd.nil
  refine ⟨h1, h2, ?_⟩
  have := List.length_filter_le (fun c => abtZ c it r) l
  unfold spnZ
  simp only [List.length_nil] at h3
  omega
end Go.Proofs.YtfannkpnmaeljaaGreatDoor

/- Clauses in memory; the small functions. -/
namespace Go.Proofs.YtfannkpnmaeljaaGreatDoor
open Go.RowKit

def Cl.vs (c : Cl) : List Value := [iv c.k, iv c.it, iv c.fr, iv c.to, iv c.rg, iv c.n, iv c.a, iv c.b]
/-- Clauses lie at p. -/
def ClAt (w : World) (n₀ : Nat) (p : Option Addr) (l : List Cl) : Prop :=
  ∀ i, i < l.length → ∃ b o, p = some ⟨b, o, none⟩ ∧ b < n₀ ∧ ∀ j, j < 8 → w.cell? ⟨b, o + i * 8 + j, none⟩ = some (iv ((l.getD i Cl.zero).get j))
theorem ClAt.below {w w' : World} {n₀ : Nat} {p : Option Addr} {l : List Cl} (h : ClAt w n₀ p l) (hb : Below n₀ w w') : ClAt w' n₀ p l := fun i hi => by
  obtain ⟨b, o, h1, h2, h3⟩ := h i hi
  exact ⟨b, o, h1, h2, fun j hj => (hb.cell (p := ⟨b, _, none⟩) h2).trans (h3 j hj)⟩
theorem ClAt.mono {w : World} {n₀ n₁ : Nat} {p : Option Addr} {l : List Cl} (h : ClAt w n₀ p l) (hn : n₀ ≤ n₁) : ClAt w n₁ p l := fun i hi => by
  obtain ⟨b, o, h1, h2, h3⟩ := h i hi
  exact ⟨b, o, h1, by omega, h3⟩
theorem ClAt.into {w w' : World} {p : Option Addr} {l : List Cl} (h : ClAt w w.heap.size p l) (hb : Below w.heap.size w w') : ClAt w' w'.heap.size p l := (h.below hb).mono hb.size
theorem ClAt.nil (w : World) (n : Nat) (p : Option Addr) : ClAt w n p [] := fun i hi => by cases hi
/-- Integers are such. -/
def Cl.ok (c : Cl) : Prop := ∀ j, (Lit.int .i64 (c.get j)).wf = true

theorem isFrom_any (n lo hi : Int) (w : World) : Calls Tryz.prog 100 #[iv n, iv lo, iv hi] w fun e w' => e = .returned (.bool (frm n lo hi)) ∧ w = w' := by
  cases h1 : decide (lo ≤ n) <;> cases h2 : decide (n ≤ hi) <;> (
    have hr : frm n lo hi = (decide (lo ≤ n) && decide (n ≤ hi)) := rfl
    rw [h1, h2] at hr
    have HR := Lib.hid hr
    clear hr
    go_enter Tryz.func100, Tryz.ntmps100
    go_wp2
    go_ret
    exact ⟨by rw [HR.out]; rfl, rfl⟩)
theorem isRegion_any (n : Int) (w : World) : Calls Tryz.prog 133 #[iv n] w fun e w' => e = .returned (.bool (frm n 0 7)) ∧ w = w' := by
  have h := fun W => isFrom_any n 0 7 W
  generalize frm n 0 7 = v at *
  go_enter Tryz.func133, Tryz.ntmps133
  go_wp2_with fail
  refine (h _).mono ?_; rintro e w' ⟨rfl, rfl⟩
  go_wp2_with fail
  go_ret
  exact ⟨rfl, rfl⟩
theorem isMinute_any (n : Int) (w : World) : Calls Tryz.prog 101 #[iv n] w fun e w' => e = .returned (.bool (mnt n)) ∧ w = w' := by
  have h := fun W => isFrom_any n 0 86399 W
  have hr : mnt n = (frm n 0 86399 && decide (n % 60 = 0)) := rfl
  have hp : frm n 0 86399 = true → 0 ≤ n ∧ n ≤ 86399 := fun h => frm_iff.1 h
  cases hv : frm n 0 86399 with
  | false =>
    rw [hv] at hr h
    have HR := Lib.hid hr
    clear hr hp hv
    go_enter Tryz.func101, Tryz.ntmps101
    go_wp2_with fail
    refine (h _).mono ?_; rintro e w' ⟨rfl, rfl⟩
    go_wp2_with fail
    go_ret
    exact ⟨by rw [HR.out]; rfl, rfl⟩
  | true =>
    obtain ⟨h0, h1⟩ := hp hv
    rw [hv] at hr h
    obtain ⟨m, rfl⟩ : ∃ m : Nat, n = m := ⟨n.toNat, by omega⟩
    have hq : decide ((m : Int) % 60 = 0) = ((m : Int) % 60 == 0) := rfl
    rw [hq] at hr
    cases hz : ((m : Int) % 60 == 0) <;> (
      rw [hz] at hr
      have HR := Lib.hid hr
      clear hr hp hv hq
      go_enter Tryz.func101, Tryz.ntmps101
      go_wp2_with fail
      refine (h _).mono ?_; rintro e w' ⟨rfl, rfl⟩
      go_wp2_with fail
      go_ret
      exact ⟨by rw [HR.out]; rfl, rfl⟩)
end Go.Proofs.YtfannkpnmaeljaaGreatDoor

/- Valid. -/
namespace Go.Proofs.YtfannkpnmaeljaaGreatDoor
open Go.RowKit

theorem Cl.v_eq (c : Cl) : (c.vs.toArray) = #[iv c.k, iv c.it, iv c.fr, iv c.to, iv c.rg, iv c.n, iv c.a, iv c.b] := rfl
theorem bthen2 {a b c : World} (h : Below a.heap.size a b) (k : Below b.heap.size b c) : Below a.heap.size a c := h.trans (k.mono h.size)
theorem ballo {w W : World} (h : Below w.heap.size w W) (o : Obj) : Below w.heap.size w (W.alloc o) := h.alloc h.size o

set_option maxHeartbeats 1000000 in
theorem areZero_any (l : List Int) (b cap : Nat) (w : World) (t : TypeId) (hA : Arr w b t (l.map iv)) (hl : l.length ≤ 100) :
    Calls Tryz.prog 99 #[.slice (some ⟨b, 0, none⟩) l.length cap] w fun e w' => e = .returned (.bool (zer l)) ∧ w = w' := by
  have HA := Lib.hid hA
  clear hA
  have hz : Hid (zer l = true ↔ ∀ i, i < l.length → l.getD i 0 = 0) := Lib.hid (by
    unfold zer
    rw [List.all_eq_true]
    constructor
    · intro h i hi
      have := h _ (List.getElem_mem hi)
      simpa [List.getD_eq_getElem?_getD, List.getElem?_eq_getElem hi] using this
    · intro h x hx
      obtain ⟨i, hi, rfl⟩ := List.getElem_of_mem hx
      have := h i hi
      simpa [List.getD_eq_getElem?_getD, List.getElem?_eq_getElem hi] using this)
  go_enter Tryz.func99, Tryz.ntmps99
  go_wp2_with fail
  go_loop [7] (fun i => ∃ k : Nat, i = .int .i64 k ∧ k ≤ l.length ∧ Hid (∀ i, i < k → l.getD i 0 = 0)) (fun i => l.length - (intOf i).toNat)
  case atStart => exact ⟨0, rfl, by omega, Lib.hid (fun i hi => by omega)⟩
  case round =>
    obtain ⟨k, rfl, hk, hp⟩ := hrel
    by_cases hlt : k < l.length
    · have hc := HA.out.cell (i := k) (v := iv (l.getD k 0)) (by simp [List.getD_eq_getElem?_getD, List.getElem?_eq_getElem hlt])
      obtain ⟨x, hx⟩ : ∃ x, l.getD k 0 = x := ⟨_, rfl⟩
      rw [hx] at hc
      have HX := Lib.hid hx
      clear hx
      have i1 : (0 : Int) ≤ (k : Int) := by omega
      have i2 : (k : Int) < (l.length : Int) := by omega
      by_cases h0 : x = 0
      · subst h0
        go_wp2_with fail
        go_round
        case rel =>
          refine ⟨k + 1, by go_num, by omega, Lib.hid (fun i hi => ?_)⟩
          rcases (by omega : i < k ∨ i = k) with h | rfl
          · exact hp.out i h
          · exact HX.out
        case measure => simp [intOf]; omega
      · have f1 : (x != 0) = true := by rw [bne_iff_ne]; exact h0
        have hf : zer l = false := by
          rw [← Bool.not_eq_true, hz.out]
          exact fun h => h0 (HX.out ▸ h k hlt)
        have HF := Lib.hid hf
        clear hf h0
        go_wp2_with fail
        go_ret
        exact ⟨by rw [HF.out]; rfl, rfl⟩
    · obtain rfl : k = l.length := by omega
      have ht : zer l = true := hz.out.2 hp.out
      have HT := Lib.hid ht
      clear ht
      go_wp2_with fail
      go_ret
      exact ⟨by rw [HT.out]; rfl, rfl⟩

theorem hasTarget_any (c : Cl) (w : World) : Calls Tryz.prog 98 #[.agg #[iv c.k, iv c.it, iv c.fr, iv c.to, iv c.rg, iv c.n, iv c.a, iv c.b]] w fun e w' => e = .returned (.bool (tgt c)) ∧ Below w.heap.size w w' := by
  have h1 := fun W => isFrom_any c.it 1 4611686018427387903 W
  have h2 := fun W => isFrom_any c.rg 1 255 W
  have hr : tgt c = (frm c.it 1 4611686018427387903 && frm c.rg 1 255) := rfl
  obtain ⟨k, it, fr, to, rg, n, a, b⟩ := c
  simp only at *
  generalize frm it 1 4611686018427387903 = v1 at *
  generalize frm rg 1 255 = v2 at *
  cases v1 <;> cases v2 <;> (
    have HR := Lib.hid hr
    clear hr
    go_enter Tryz.func98, Tryz.ntmps98
    go_wp2_with (go_at_call 100; first | (with_reducible refine Calls.mono (h1 _) ?_; rintro e w' ⟨rfl, rfl⟩) | (with_reducible refine Calls.mono (h2 _) ?_; rintro e w' ⟨rfl, rfl⟩))
    go_ret
    exact ⟨by rw [HR.out]; rfl, (Below.refl _ _).alloc (Nat.le_refl _) _⟩)
end Go.Proofs.YtfannkpnmaeljaaGreatDoor

/- Valid. -/
namespace Go.Proofs.YtfannkpnmaeljaaGreatDoor
open Go.RowKit

set_option maxRecDepth 100000 in
set_option maxHeartbeats 4000000 in
theorem vld12 (c : Cl) (hk : c.k = 1 ∨ c.k = 2) (w : World) : Calls Tryz.prog 80 #[.agg #[iv c.k, iv c.it, iv c.fr, iv c.to, iv c.rg, iv c.n, iv c.a, iv c.b]] w fun e w' => e = .returned (.bool (vldZ c)) ∧ Below w.heap.size w w' := by
  have hT := fun W => hasTarget_any c W
  have hv : vldZ c = (tgt c && decide (0 ≤ c.fr) && decide (c.fr < c.to) && decide (c.to ≤ 10000000000) && zer [c.n, c.a, c.b]) := by
    unfold vldZ
    rw [if_pos hk]
  have hZ := fun (W : World) => areZero_any [c.n, c.a, c.b] W.heap.size 3 (W.alloc (.cells #[iv c.n, iv c.a, iv c.b] 3)) 3 (Arr.new W _ _) (by simp)
  obtain ⟨k, it, fr, to, rg, n, a, b⟩ := c
  simp only at *
  generalize tgt ⟨k, it, fr, to, rg, n, a, b⟩ = vT at *
  generalize zer [n, a, b] = vZ at *
  have HV := Lib.hid hv
  clear hv
  generalize vldZ ⟨k, it, fr, to, rg, n, a, b⟩ = V at *
  rcases hk with rfl | rfl
  · have A0 := Arr.new w 53 [iv 1, iv it, iv fr, iv to, iv rg, iv n, iv a, iv b]
    have B0 : Below w.heap.size w (w.alloc (.cells #[iv 1, iv it, iv fr, iv to, iv rg, iv n, iv a, iv b] 53)) := (Below.refl _ _).alloc (Nat.le_refl _) _
    have hl0 := A0.lt
    go_enter Tryz.func80, Tryz.ntmps80
    go_wp2_with fail
    refine (hT _).mono ?_
    rintro e w1 ⟨rfl, b1⟩
    have A1 := A0.below b1 hl0
    have B1 := B0.trans (b1.mono B0.size)
    have q2A1 := A1.cell (i := 2) rfl
    have q3A1 := A1.cell (i := 3) rfl
    have q4A1 := A1.cell (i := 4) rfl
    have q5A1 := A1.cell (i := 5) rfl
    have q6A1 := A1.cell (i := 6) rfl
    have q7A1 := A1.cell (i := 7) rfl
    clear A0 hT b1
    cases vT with
    | false =>
      have HF := Lib.hid (show V = false by rw [HV.out]; simp)
      go_wp2_with fail
      go_ret
      exact ⟨by rw [HF.out]; rfl, B1⟩
    | true =>
      by_cases g1 : 0 ≤ fr
      · by_cases g2 : fr < to
        · by_cases g3 : to ≤ 10000000000
          · have HF := Lib.hid (show V = vZ by rw [HV.out]; simp [g1, g2, g3])
            go_wp2_with fail
            refine (hZ _).mono ?_
            rintro e w2 ⟨rfl, rfl⟩
            go_wp2_with fail
            go_ret
            exact ⟨by rw [HF.out]; rfl, B1.alloc B1.size _⟩
          · have HF := Lib.hid (show V = false by rw [HV.out]; simp [g1, g2, g3])
            go_wp2_with fail
            go_ret
            exact ⟨by rw [HF.out]; rfl, B1⟩
        · have HF := Lib.hid (show V = false by rw [HV.out]; simp [g1, g2])
          go_wp2_with fail
          go_ret
          exact ⟨by rw [HF.out]; rfl, B1⟩
      · have HF := Lib.hid (show V = false by rw [HV.out]; simp [g1])
        go_wp2_with fail
        go_ret
        exact ⟨by rw [HF.out]; rfl, B1⟩
  · have A0 := Arr.new w 53 [iv 2, iv it, iv fr, iv to, iv rg, iv n, iv a, iv b]
    have B0 : Below w.heap.size w (w.alloc (.cells #[iv 2, iv it, iv fr, iv to, iv rg, iv n, iv a, iv b] 53)) := (Below.refl _ _).alloc (Nat.le_refl _) _
    have hl0 := A0.lt
    go_enter Tryz.func80, Tryz.ntmps80
    go_wp2_with fail
    refine (hT _).mono ?_
    rintro e w1 ⟨rfl, b1⟩
    have A1 := A0.below b1 hl0
    have B1 := B0.trans (b1.mono B0.size)
    have q2A1 := A1.cell (i := 2) rfl
    have q3A1 := A1.cell (i := 3) rfl
    have q4A1 := A1.cell (i := 4) rfl
    have q5A1 := A1.cell (i := 5) rfl
    have q6A1 := A1.cell (i := 6) rfl
    have q7A1 := A1.cell (i := 7) rfl
    clear A0 hT b1
    cases vT with
    | false =>
      have HF := Lib.hid (show V = false by rw [HV.out]; simp)
      go_wp2_with fail
      go_ret
      exact ⟨by rw [HF.out]; rfl, B1⟩
    | true =>
      by_cases g1 : 0 ≤ fr
      · by_cases g2 : fr < to
        · by_cases g3 : to ≤ 10000000000
          · have HF := Lib.hid (show V = vZ by rw [HV.out]; simp [g1, g2, g3])
            go_wp2_with fail
            refine (hZ _).mono ?_
            rintro e w2 ⟨rfl, rfl⟩
            go_wp2_with fail
            go_ret
            exact ⟨by rw [HF.out]; rfl, B1.alloc B1.size _⟩
          · have HF := Lib.hid (show V = false by rw [HV.out]; simp [g1, g2, g3])
            go_wp2_with fail
            go_ret
            exact ⟨by rw [HF.out]; rfl, B1⟩
        · have HF := Lib.hid (show V = false by rw [HV.out]; simp [g1, g2])
          go_wp2_with fail
          go_ret
          exact ⟨by rw [HF.out]; rfl, B1⟩
      · have HF := Lib.hid (show V = false by rw [HV.out]; simp [g1])
        go_wp2_with fail
        go_ret
        exact ⟨by rw [HF.out]; rfl, B1⟩
end Go.Proofs.YtfannkpnmaeljaaGreatDoor

/- Valid. -/
namespace Go.Proofs.YtfannkpnmaeljaaGreatDoor
open Go.RowKit

set_option maxRecDepth 100000 in
set_option maxHeartbeats 4000000 in
theorem vld3 (c : Cl) (hk : c.k = 3) (w : World) : Calls Tryz.prog 80 #[.agg #[iv c.k, iv c.it, iv c.fr, iv c.to, iv c.rg, iv c.n, iv c.a, iv c.b]] w fun e w' => e = .returned (.bool (vldZ c)) ∧ Below w.heap.size w w' := by
  have hT := fun W => hasTarget_any c W
  have hv : vldZ c = (tgt c && frm c.n 0 1000 && zer [c.fr, c.to, c.a, c.b]) := by
    unfold vldZ
    simp [hk]
  have hZ := fun (W : World) => areZero_any [c.fr, c.to, c.a, c.b] W.heap.size 4 (W.alloc (.cells #[iv c.fr, iv c.to, iv c.a, iv c.b] 3)) 3 (Arr.new W _ _) (by simp)
  have h1 := fun W => isFrom_any c.n 0 1000 W
  obtain ⟨k, it, fr, to, rg, n, a, b⟩ := c
  simp only at *
  generalize tgt ⟨k, it, fr, to, rg, n, a, b⟩ = vT at *
  generalize frm n 0 1000 = v1 at *
  generalize zer [fr, to, a, b] = vZ at *
  have HV := Lib.hid hv
  clear hv
  generalize vldZ ⟨k, it, fr, to, rg, n, a, b⟩ = V at *
  subst hk
  have A0 := Arr.new w 53 [iv 3, iv it, iv fr, iv to, iv rg, iv n, iv a, iv b]
  have B0 : Below w.heap.size w (w.alloc (.cells #[iv 3, iv it, iv fr, iv to, iv rg, iv n, iv a, iv b] 53)) := (Below.refl _ _).alloc (Nat.le_refl _) _
  have hl0 := A0.lt
  go_enter Tryz.func80, Tryz.ntmps80
  go_wp2_with fail
  refine (hT _).mono ?_
  rintro e w1 ⟨rfl, b1⟩
  have A1 := A0.below b1 hl0
  have B1 := B0.trans (b1.mono B0.size)
  have q2A1 := A1.cell (i := 2) rfl
  have q3A1 := A1.cell (i := 3) rfl
  have q4A1 := A1.cell (i := 4) rfl
  have q5A1 := A1.cell (i := 5) rfl
  have q6A1 := A1.cell (i := 6) rfl
  have q7A1 := A1.cell (i := 7) rfl
  clear A0 hT b1
  cases vT with
  | false =>
    have HF := Lib.hid (show V = false by rw [HV.out]; simp)
    go_wp2_with (first | (go_at_call 100; with_reducible refine Calls.mono (h1 _) ?_; rintro e w' ⟨rfl, rfl⟩))
    go_ret
    exact ⟨by rw [HF.out]; rfl, B1⟩
  | true =>
    cases v1 with
    | false =>
      have HF := Lib.hid (show V = false by rw [HV.out]; simp)
      go_wp2_with (first | (go_at_call 100; with_reducible refine Calls.mono (h1 _) ?_; rintro e w' ⟨rfl, rfl⟩))
      go_ret
      exact ⟨by rw [HF.out]; rfl, B1⟩
    | true =>
      have HF := Lib.hid (show V = vZ by rw [HV.out]; simp)
      go_wp2_with (first | (go_at_call 100; with_reducible refine Calls.mono (h1 _) ?_; rintro e w' ⟨rfl, rfl⟩))
      refine (hZ _).mono ?_
      rintro e w2 ⟨rfl, rfl⟩
      go_wp2_with fail
      go_ret
      exact ⟨by rw [HF.out]; rfl, B1.alloc B1.size _⟩
end Go.Proofs.YtfannkpnmaeljaaGreatDoor

/- Valid. -/
namespace Go.Proofs.YtfannkpnmaeljaaGreatDoor
open Go.RowKit

set_option maxRecDepth 100000 in
set_option maxHeartbeats 4000000 in
theorem vld4 (c : Cl) (hk : c.k = 4) (w : World) : Calls Tryz.prog 80 #[.agg #[iv c.k, iv c.it, iv c.fr, iv c.to, iv c.rg, iv c.n, iv c.a, iv c.b]] w fun e w' => e = .returned (.bool (vldZ c)) ∧ Below w.heap.size w w' := by
  have hT := fun W => hasTarget_any c W
  have hv : vldZ c = (tgt c && frm c.n 0 10000000000 && zer [c.fr, c.to, c.a, c.b]) := by
    unfold vldZ
    simp [hk]
  have hZ := fun (W : World) => areZero_any [c.fr, c.to, c.a, c.b] W.heap.size 4 (W.alloc (.cells #[iv c.fr, iv c.to, iv c.a, iv c.b] 3)) 3 (Arr.new W _ _) (by simp)
  have h1 := fun W => isFrom_any c.n 0 10000000000 W
  obtain ⟨k, it, fr, to, rg, n, a, b⟩ := c
  simp only at *
  generalize tgt ⟨k, it, fr, to, rg, n, a, b⟩ = vT at *
  generalize frm n 0 10000000000 = v1 at *
  generalize zer [fr, to, a, b] = vZ at *
  have HV := Lib.hid hv
  clear hv
  generalize vldZ ⟨k, it, fr, to, rg, n, a, b⟩ = V at *
  subst hk
  have A0 := Arr.new w 53 [iv 4, iv it, iv fr, iv to, iv rg, iv n, iv a, iv b]
  have B0 : Below w.heap.size w (w.alloc (.cells #[iv 4, iv it, iv fr, iv to, iv rg, iv n, iv a, iv b] 53)) := (Below.refl _ _).alloc (Nat.le_refl _) _
  have hl0 := A0.lt
  go_enter Tryz.func80, Tryz.ntmps80
  go_wp2_with fail
  refine (hT _).mono ?_
  rintro e w1 ⟨rfl, b1⟩
  have A1 := A0.below b1 hl0
  have B1 := B0.trans (b1.mono B0.size)
  have q2A1 := A1.cell (i := 2) rfl
  have q3A1 := A1.cell (i := 3) rfl
  have q4A1 := A1.cell (i := 4) rfl
  have q5A1 := A1.cell (i := 5) rfl
  have q6A1 := A1.cell (i := 6) rfl
  have q7A1 := A1.cell (i := 7) rfl
  clear A0 hT b1
  cases vT with
  | false =>
    have HF := Lib.hid (show V = false by rw [HV.out]; simp)
    go_wp2_with (first | (go_at_call 100; with_reducible refine Calls.mono (h1 _) ?_; rintro e w' ⟨rfl, rfl⟩))
    go_ret
    exact ⟨by rw [HF.out]; rfl, B1⟩
  | true =>
    cases v1 with
    | false =>
      have HF := Lib.hid (show V = false by rw [HV.out]; simp)
      go_wp2_with (first | (go_at_call 100; with_reducible refine Calls.mono (h1 _) ?_; rintro e w' ⟨rfl, rfl⟩))
      go_ret
      exact ⟨by rw [HF.out]; rfl, B1⟩
    | true =>
      have HF := Lib.hid (show V = vZ by rw [HV.out]; simp)
      go_wp2_with (first | (go_at_call 100; with_reducible refine Calls.mono (h1 _) ?_; rintro e w' ⟨rfl, rfl⟩))
      refine (hZ _).mono ?_
      rintro e w2 ⟨rfl, rfl⟩
      go_wp2_with fail
      go_ret
      exact ⟨by rw [HF.out]; rfl, B1.alloc B1.size _⟩
end Go.Proofs.YtfannkpnmaeljaaGreatDoor

/- Valid. -/
namespace Go.Proofs.YtfannkpnmaeljaaGreatDoor
open Go.RowKit

set_option maxRecDepth 100000 in
set_option maxHeartbeats 4000000 in
theorem vld5 (c : Cl) (hk : c.k = 5) (w : World) : Calls Tryz.prog 80 #[.agg #[iv c.k, iv c.it, iv c.fr, iv c.to, iv c.rg, iv c.n, iv c.a, iv c.b]] w fun e w' => e = .returned (.bool (vldZ c)) ∧ Below w.heap.size w w' := by
  have hT := fun W => hasTarget_any c W
  have hv : vldZ c = (frm c.a 1 200 && frm c.b 1 200 && !decide (c.a = c.b) && frm c.n 0 86400 && zer [c.it, c.fr, c.to, c.rg]) := by
    unfold vldZ
    simp [hk]
  have hZ := fun (W : World) => areZero_any [c.it, c.fr, c.to, c.rg] W.heap.size 4 (W.alloc (.cells #[iv c.it, iv c.fr, iv c.to, iv c.rg] 3)) 3 (Arr.new W _ _) (by simp)
  have h1 := fun W => isFrom_any c.a 1 200 W
  have h2 := fun W => isFrom_any c.b 1 200 W
  have h3 := fun W => isFrom_any c.n 0 86400 W
  obtain ⟨k, it, fr, to, rg, n, a, b⟩ := c
  simp only at *
  generalize tgt ⟨k, it, fr, to, rg, n, a, b⟩ = vT at *
  generalize frm a 1 200 = v1 at *
  generalize frm b 1 200 = v2 at *
  generalize frm n 0 86400 = v3 at *
  generalize zer [it, fr, to, rg] = vZ at *
  have HV := Lib.hid hv
  clear hv
  generalize vldZ ⟨k, it, fr, to, rg, n, a, b⟩ = V at *
  subst hk
  have A0 := Arr.new w 53 [iv 5, iv it, iv fr, iv to, iv rg, iv n, iv a, iv b]
  have B0 : Below w.heap.size w (w.alloc (.cells #[iv 5, iv it, iv fr, iv to, iv rg, iv n, iv a, iv b] 53)) := (Below.refl _ _).alloc (Nat.le_refl _) _
  have hl0 := A0.lt
  go_enter Tryz.func80, Tryz.ntmps80
  go_wp2_with fail
  obtain ⟨W0, hW0⟩ : ∃ W0, w.alloc (.cells #[iv 5, iv it, iv fr, iv to, iv rg, iv n, iv a, iv b] 53) = W0 := ⟨_, rfl⟩
  have A1 : Arr W0 w.heap.size 53 [iv 5, iv it, iv fr, iv to, iv rg, iv n, iv a, iv b] := by rw [← hW0]; exact A0
  rw [hW0] at B0
  rw [hW0]
  have q1 := A1.cell (i := 1) rfl
  have q2 := A1.cell (i := 2) rfl
  have q3 := A1.cell (i := 3) rfl
  have q4 := A1.cell (i := 4) rfl
  have q5 := A1.cell (i := 5) rfl
  have q6 := A1.cell (i := 6) rfl
  have q7 := A1.cell (i := 7) rfl
  clear hW0 A0 hl0
  cases v1 with
  | false =>
    have HF := Lib.hid (show V = false by rw [HV.out]; simp)
    go_wp2_with (first | (go_at_call 100; with_reducible refine Calls.mono (h1 _) ?_; rintro e w' ⟨rfl, rfl⟩) | (go_at_call 100; with_reducible refine Calls.mono (h2 _) ?_; rintro e w' ⟨rfl, rfl⟩) | (go_at_call 100; with_reducible refine Calls.mono (h3 _) ?_; rintro e w' ⟨rfl, rfl⟩))
    go_ret
    exact ⟨by rw [HF.out]; rfl, B0⟩
  | true =>
    cases v2 with
    | false =>
      have HF := Lib.hid (show V = false by rw [HV.out]; simp)
      go_wp2_with (first | (go_at_call 100; with_reducible refine Calls.mono (h1 _) ?_; rintro e w' ⟨rfl, rfl⟩) | (go_at_call 100; with_reducible refine Calls.mono (h2 _) ?_; rintro e w' ⟨rfl, rfl⟩) | (go_at_call 100; with_reducible refine Calls.mono (h3 _) ?_; rintro e w' ⟨rfl, rfl⟩))
      go_ret
      exact ⟨by rw [HF.out]; rfl, B0⟩
    | true =>
      by_cases g1 : a = b
      · have eg1 : (a != b) = false := by simp [g1]
        have HF := Lib.hid (show V = false by rw [HV.out]; simp [g1])
        clear g1
        go_wp2_with (first | (go_at_call 100; with_reducible refine Calls.mono (h1 _) ?_; rintro e w' ⟨rfl, rfl⟩) | (go_at_call 100; with_reducible refine Calls.mono (h2 _) ?_; rintro e w' ⟨rfl, rfl⟩) | (go_at_call 100; with_reducible refine Calls.mono (h3 _) ?_; rintro e w' ⟨rfl, rfl⟩))
        go_ret
        exact ⟨by rw [HF.out]; rfl, B0⟩
      · have eg1 : (a != b) = true := by simp [g1]
        cases v3 with
        | false =>
          have HF := Lib.hid (show V = false by rw [HV.out]; simp [g1])
          clear g1
          go_wp2_with (first | (go_at_call 100; with_reducible refine Calls.mono (h1 _) ?_; rintro e w' ⟨rfl, rfl⟩) | (go_at_call 100; with_reducible refine Calls.mono (h2 _) ?_; rintro e w' ⟨rfl, rfl⟩) | (go_at_call 100; with_reducible refine Calls.mono (h3 _) ?_; rintro e w' ⟨rfl, rfl⟩))
          go_ret
          exact ⟨by rw [HF.out]; rfl, B0⟩
        | true =>
          have HF := Lib.hid (show V = vZ by rw [HV.out]; simp [g1])
          go_wp2_with (first | (go_at_call 100; with_reducible refine Calls.mono (h1 _) ?_; rintro e w' ⟨rfl, rfl⟩) | (go_at_call 100; with_reducible refine Calls.mono (h2 _) ?_; rintro e w' ⟨rfl, rfl⟩) | (go_at_call 100; with_reducible refine Calls.mono (h3 _) ?_; rintro e w' ⟨rfl, rfl⟩))
          refine (hZ _).mono ?_
          rintro e w2 ⟨rfl, rfl⟩
          go_wp2_with fail
          go_ret
          exact ⟨by rw [HF.out]; rfl, B0.alloc B0.size _⟩
end Go.Proofs.YtfannkpnmaeljaaGreatDoor
