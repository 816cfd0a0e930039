/- Zones as plain numbers: the stretches of constant offset. -/
namespace Go.Proofs.Ytejohdmbnnlhjaa

def okOff (n : Int) : Bool := decide (-50400 ≤ n) && decide (n ≤ 50400)
def okSec (n : Int) : Bool := decide (0 ≤ n) && decide (n ≤ 10000000000)
def okSod (n : Int) : Bool := decide (0 ≤ n) && decide (n < 86400)
def ascZ : Int → List (Int × Int) → Bool
  | _, [] => true
  | l, (a, o) :: r => decide (l < a) && okSec a && okOff o && ascZ a r
def validZ (off : Int) (sh : List (Int × Int)) : Bool := okOff off && decide (sh.length ≤ 40) && ascZ (-1) sh

theorem ascZ_drop {l : Int} {sh : List (Int × Int)} {k : Nat} (h : k < sh.length) :
    ascZ l (sh.drop k) = (decide (l < (sh.getD k (0, 0)).1) && okSec (sh.getD k (0, 0)).1 && okOff (sh.getD k (0, 0)).2 && ascZ (sh.getD k (0, 0)).1 (sh.drop (k + 1))) := by
  rw [List.drop_eq_getElem_cons h, List.getD_eq_getElem?_getD, List.getElem?_eq_getElem h]
  rfl

/-- From, to (exclusive), offset. -/
abbrev Str := Int × Int × Int
def strs : Int → Int → List (Int × Int) → List Str
  | f, o, [] => [(f, 10000000001, o)]
  | f, o, (a, p) :: r => (f, a, o) :: strs a p r

theorem strs_drop {f o : Int} {sh : List (Int × Int)} {k : Nat} (h : k < sh.length) :
    strs f o (sh.drop k) = (f, (sh.getD k (0, 0)).1, o) :: strs (sh.getD k (0, 0)).1 (sh.getD k (0, 0)).2 (sh.drop (k + 1)) := by
  rw [List.drop_eq_getElem_cons h, List.getD_eq_getElem?_getD, List.getElem?_eq_getElem h]
  rfl
theorem strs_end {f o : Int} {sh : List (Int × Int)} : strs f o (sh.drop sh.length) = [(f, 10000000001, o)] := by
  rw [List.drop_length]; rfl

theorem rest_cons {T pre rest : List Str} {x : Str} (h : T = pre ++ rest) (hp : pre ++ [x] <+: T) : ∃ r, rest = x :: r := by
  obtain ⟨t, ht⟩ := hp
  rw [h, List.append_assoc] at ht
  exact ⟨t, (List.append_cancel_left ht).symm⟩
theorem rest_nil {T rest : List Str} (h : T = T ++ rest) : rest = [] := by
  have := congrArg List.length h
  simp at this
  exact this

/-- The offset at a second: that of the last stretch that has begun. -/
def offRun (s : Int) : Int → List Str → Int
  | o, [] => o
  | o, x :: r => if s < x.1 then o else offRun s x.2.2 r
def offZ (off : Int) (sh : List (Int × Int)) (s : Int) : Int := offRun s off (strs 0 off sh)
/-- How many seconds of the day lie in the stretches. -/
def lenRun (d : Int) : Int → List Str → Int
  | t, [] => t
  | t, x :: r => lenRun d (t + max 0 (min (d * 86400 - x.2.2 + 86400) x.2.1 - max (d * 86400 - x.2.2) x.1)) r
def lenZ (off : Int) (sh : List (Int × Int)) (d : Int) : Int := lenRun d 0 (strs 0 off sh)
def atRun (u : Int) : List Int → List Str → List Int
  | t, [] => t
  | t, x :: r => atRun u (if x.1 ≤ u - x.2.2 ∧ u - x.2.2 < x.2.1 then t ++ [u - x.2.2] else t) r
def atZ (off : Int) (sh : List (Int × Int)) (d s : Int) : List Int := atRun (d * 86400 + s) [] (strs 0 off sh)

/-- Every stretch has an offset within the bounds, and bounds of its own. -/
def StrOk (x : Str) : Prop := -50400 ≤ x.2.2 ∧ x.2.2 ≤ 50400 ∧ 0 ≤ x.1 ∧ x.1 ≤ x.2.1 ∧ x.2.1 ≤ 10000000001
theorem okOff_iff {n : Int} : okOff n = true ↔ -50400 ≤ n ∧ n ≤ 50400 := by simp [okOff]
theorem okSec_iff {n : Int} : okSec n = true ↔ 0 ≤ n ∧ n ≤ 10000000000 := by simp [okSec]
theorem okSod_iff {n : Int} : okSod n = true ↔ 0 ≤ n ∧ n < 86400 := by simp [okSod]
theorem strs_ok : ∀ {sh : List (Int × Int)} {f o l : Int}, okOff o = true → ascZ l sh = true → 0 ≤ f → f ≤ l + 1 → f ≤ 10000000001 → ∀ x ∈ strs f o sh, StrOk x
  | [], f, o, l, ho, _, h0, h1, h2, x, hx => by
    rw [okOff_iff] at ho
    simp [strs] at hx; subst hx; exact ⟨ho.1, ho.2, h0, h2, Int.le_refl _⟩
  | (a, p) :: r, f, o, l, ho, ha, h0, h1, h2, x, hx => by
    simp only [ascZ, Bool.and_eq_true, decide_eq_true_eq] at ha
    obtain ⟨⟨⟨hl, hs⟩, hp⟩, hr⟩ := ha
    have hs' := okSec_iff.1 hs
    rcases List.mem_cons.1 hx with rfl | hx
    · rw [okOff_iff] at ho
      exact ⟨ho.1, ho.2, h0, by simp; omega, by simp; omega⟩
    · exact strs_ok hp hr hs'.1 (by omega) (by omega) x hx
theorem valid_iff {off : Int} {sh : List (Int × Int)} (h : validZ off sh = true) : (-50400 ≤ off ∧ off ≤ 50400) ∧ sh.length ≤ 40 ∧ ∀ x ∈ strs 0 off sh, StrOk x := by
  simp only [validZ, Bool.and_eq_true, decide_eq_true_eq] at h
  exact ⟨okOff_iff.1 h.1.1, h.1.2, strs_ok h.1.1 h.2 (by omega) (by omega) (by omega)⟩

theorem offRun_ok {s : Int} : ∀ {T : List Str} {o : Int}, (-50400 ≤ o ∧ o ≤ 50400) → (∀ x ∈ T, StrOk x) → -50400 ≤ offRun s o T ∧ offRun s o T ≤ 50400
  | [], o, h, _ => h
  | x :: r, o, h, hT => by
    unfold offRun
    split
    · exact h
    · have := hT x (by simp)
      exact offRun_ok ⟨this.1, this.2.1⟩ (fun y hy => hT y (by simp [hy]))
theorem offZ_ok {off s : Int} {sh : List (Int × Int)} (h : validZ off sh = true) : -50400 ≤ offZ off sh s ∧ offZ off sh s ≤ 50400 := by
  obtain ⟨h1, h2, h3⟩ := valid_iff h
  exact offRun_ok h1 h3
theorem strs_len : ∀ {sh : List (Int × Int)} {f o : Int}, (strs f o sh).length = sh.length + 1
  | [], _, _ => rfl
  | (a, p) :: r, f, o => by simp [strs, strs_len (sh := r)]

def localZ (off : Int) (sh : List (Int × Int)) (s : Int) : Int × Int :=
  if validZ off sh && okSec s then ((s + offZ off sh s) / 86400, (s + offZ off sh s) % 86400) else (0, 0)
def okDay (d : Int) : Bool := decide (-1 ≤ d) && decide (d ≤ 115741)
def lengthZ (off : Int) (sh : List (Int × Int)) (d : Int) : Int := if validZ off sh && okDay d then lenZ off sh d else 0
def atT (off : Int) (sh : List (Int × Int)) (d s : Int) : List Int := if validZ off sh && okDay d && okSod s then atZ off sh d s else []

/-- A span is added behind the others: it joins the last one where it touches it. -/
def addZ (l : List (Int × Int)) (b e : Int) : List (Int × Int) :=
  if e ≤ b then l else match l.getLast? with
    | some x => if x.2 = b then l.dropLast ++ [(x.1, e)] else l ++ [(b, e)]
    | none => [(b, e)]
theorem addZ_no {l : List (Int × Int)} {b e : Int} (h : e ≤ b) : addZ l b e = l := by unfold addZ; rw [if_pos h]
theorem addZ_nil {b e : Int} (h : ¬ e ≤ b) : addZ [] b e = [(b, e)] := by unfold addZ; rw [if_neg h]; rfl
theorem addZ_join {l : List (Int × Int)} {f b e : Int} (h : ¬ e ≤ b) : addZ (l ++ [(f, b)]) b e = l ++ [(f, e)] := by
  unfold addZ; rw [if_neg h]; simp
theorem addZ_far {l : List (Int × Int)} {f t b e : Int} (h : ¬ e ≤ b) (ht : t ≠ b) : addZ (l ++ [(f, t)]) b e = l ++ [(f, t)] ++ [(b, e)] := by
  unfold addZ; rw [if_neg h]; simp [ht]
theorem addZ_len {l : List (Int × Int)} {b e : Int} : (addZ l b e).length ≤ l.length + 1 := by
  unfold addZ
  split
  · omega
  · split
    · split <;> simp <;> omega
    · simp

/-- The windows of one stretch, from the one that opens at op on. -/
def winRun (bg en wl : Int) (l : List (Int × Int)) (op : Int) : List (Int × Int) :=
  if op < en then winRun bg en wl (addZ l (max op bg) (min (op + wl) en)) (op + 86400) else l
termination_by (en - op).toNat
decreasing_by omega
theorem winRun_go {bg en wl : Int} {l : List (Int × Int)} {op : Int} (h : op < en) : winRun bg en wl l op = winRun bg en wl (addZ l (max op bg) (min (op + wl) en)) (op + 86400) := by
  rw [winRun, if_pos h]
theorem winRun_end {bg en wl : Int} {l : List (Int × Int)} {op : Int} (h : ¬ op < en) : winRun bg en wl l op = l := by
  rw [winRun, if_neg h]
def spanRun (F To a wl : Int) : List (Int × Int) → List Str → List (Int × Int)
  | l, [] => l
  | l, x :: r => if x.2.1 ≤ F then spanRun F To a wl l r else if To ≤ x.1 then l else
      spanRun F To a wl (winRun (max x.1 F) (min x.2.1 To) wl l (max x.1 F - (max x.1 F + x.2.2 - a) % 86400)) r
end Go.Proofs.Ytejohdmbnnlhjaa
