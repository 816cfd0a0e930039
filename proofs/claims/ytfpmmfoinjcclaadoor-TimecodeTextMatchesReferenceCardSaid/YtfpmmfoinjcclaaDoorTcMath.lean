/- Timecodes as plain numbers. -/
namespace Go.Proofs.YtfpmmfoinjcclaaDoor

structure Rt where
  num : Nat
  den : Nat
  base : Nat
  drop : Nat
deriving DecidableEq

def rtL : List Rt := [⟨24000, 1001, 24, 0⟩, ⟨24, 1, 24, 0⟩, ⟨25, 1, 25, 0⟩, ⟨30000, 1001, 30, 2⟩, ⟨30, 1, 30, 0⟩, ⟨50, 1, 50, 0⟩, ⟨60000, 1001, 60, 4⟩, ⟨60, 1, 60, 0⟩]
def Rt.minute (x : Rt) : Nat := 60 * x.base
def Rt.ten (x : Rt) : Nat := 600 * x.base - 9 * x.drop
def Rt.day (x : Rt) : Nat := 86400 * x.base - 1296 * x.drop
/-- How many are dropped in the first m minutes. -/
def droppedZ (x : Rt) (m : Nat) : Nat := x.drop * (m - (m + 9) / 10)
def startedZ (x : Rt) (n : Nat) : Nat :=
  if n % x.ten < x.minute then 10 * (n / x.ten) + 1 else 10 * (n / x.ten) + 2 + (n % x.ten - x.minute) / (x.minute - x.drop)
def countZ (x : Rt) (n : Nat) : Nat := n + droppedZ x (startedZ x n)
/-- The index of the timecode of minute m, second s and frame f. -/
def indexZ (x : Rt) (m s f : Nat) : Nat := m * x.minute + s * x.base + f - droppedZ x (m + 1)

theorem rt_cases {x : Rt} (h : x ∈ rtL) : x = ⟨24000, 1001, 24, 0⟩ ∨ x = ⟨24, 1, 24, 0⟩ ∨ x = ⟨25, 1, 25, 0⟩ ∨ x = ⟨30000, 1001, 30, 2⟩ ∨ x = ⟨30, 1, 30, 0⟩ ∨ x = ⟨50, 1, 50, 0⟩ ∨ x = ⟨60000, 1001, 60, 4⟩ ∨ x = ⟨60, 1, 60, 0⟩ := by
  simpa [rtL] using h

theorem day_pos {x : Rt} (h : x ∈ rtL) : 0 < x.day ∧ x.day ≤ 5184000 := by
  rcases rt_cases h with rfl | rfl | rfl | rfl | rfl | rfl | rfl | rfl <;> decide

/-- The timecode of an index is one of the day. -/
theorem count_in {x : Rt} (h : x ∈ rtL) {n : Nat} (hn : n < x.day) :
    countZ x n < 86400 * x.base ∧ startedZ x n = countZ x n / x.minute + 1 ∧ droppedZ x (startedZ x n) ≤ countZ x n ∧ (countZ x n / x.base % 60 = 0 → countZ x n % x.base < x.drop → countZ x n / x.minute % 10 = 0) := by
  unfold countZ
  obtain ⟨k, hk⟩ : ∃ k, startedZ x n = k := ⟨_, rfl⟩
  rw [hk]
  unfold startedZ at hk
  by_cases hlt : n % x.ten < x.minute
  · rw [if_pos hlt] at hk
    rcases rt_cases h with rfl | rfl | rfl | rfl | rfl | rfl | rfl | rfl <;> simp only [droppedZ, Rt.ten, Rt.minute, Rt.day, Nat.reduceMul, Nat.reduceSub, Nat.zero_mul, Nat.add_zero] at * <;> omega
  · rw [if_neg hlt] at hk
    rcases rt_cases h with rfl | rfl | rfl | rfl | rfl | rfl | rfl | rfl <;> simp only [droppedZ, Rt.ten, Rt.minute, Rt.day, Nat.reduceMul, Nat.reduceSub, Nat.zero_mul, Nat.add_zero] at *
    · omega
    · omega
    · omega
    · refine ⟨by omega, by omega, by omega, fun e1 e2 => ?_⟩
      obtain ⟨t, ht⟩ : ∃ t, n / 17982 = t := ⟨_, rfl⟩
      obtain ⟨q, hq⟩ : ∃ q, (n % 17982 - 1800) / 1798 = q := ⟨_, rfl⟩
      obtain ⟨p, hp⟩ : ∃ p, (n % 17982 - 1800) % 1798 = p := ⟨_, rfl⟩
      have hd : k - (k + 9) / 10 = 9 * t + 1 + q := by omega
      have hc : n + 2 * (k - (k + 9) / 10) = 1800 * (10 * t + 1 + q) + (2 + p) := by omega
      rw [hc] at e1 e2
      omega
    · omega
    · omega
    · refine ⟨by omega, by omega, by omega, fun e1 e2 => ?_⟩
      obtain ⟨t, ht⟩ : ∃ t, n / 35964 = t := ⟨_, rfl⟩
      obtain ⟨q, hq⟩ : ∃ q, (n % 35964 - 3600) / 3596 = q := ⟨_, rfl⟩
      obtain ⟨p, hp⟩ : ∃ p, (n % 35964 - 3600) % 3596 = p := ⟨_, rfl⟩
      have hd : k - (k + 9) / 10 = 9 * t + 1 + q := by omega
      have hc : n + 4 * (k - (k + 9) / 10) = 3600 * (10 * t + 1 + q) + (4 + p) := by omega
      rw [hc] at e1 e2
      omega
    · omega

/-- A timecode that is not dropped has the index whose timecode it is. -/
theorem count_of {x : Rt} (h : x ∈ rtL) {m s f : Nat} (hm : m < 1440) (hs : s < 60) (hf : f < x.base) (hd : s = 0 → f < x.drop → m % 10 = 0) :
    indexZ x m s f < x.day ∧ droppedZ x (m + 1) ≤ m * x.minute + s * x.base + f ∧ countZ x (indexZ x m s f) = m * x.minute + s * x.base + f := by
  have key : droppedZ x (m + 1) ≤ m * x.minute + s * x.base + f ∧ indexZ x m s f < x.day := by
    rcases rt_cases h with rfl | rfl | rfl | rfl | rfl | rfl | rfl | rfl <;> simp only [indexZ, droppedZ, Rt.ten, Rt.minute, Rt.day, Nat.reduceMul, Nat.reduceSub, Nat.zero_mul, Nat.add_zero] at * <;> omega
  have key2 : startedZ x (indexZ x m s f) = m + 1 := by
    obtain ⟨i, hi⟩ : ∃ i, indexZ x m s f = i := ⟨_, rfl⟩
    rw [hi]; rw [hi] at key
    unfold startedZ
    unfold indexZ at hi
    by_cases hlt : i % x.ten < x.minute
    · rw [if_pos hlt]
      rcases rt_cases h with rfl | rfl | rfl | rfl | rfl | rfl | rfl | rfl <;> simp only [droppedZ, Rt.ten, Rt.minute, Rt.day, Nat.reduceMul, Nat.reduceSub, Nat.zero_mul, Nat.add_zero] at * <;> omega
    · rw [if_neg hlt]
      rcases rt_cases h with rfl | rfl | rfl | rfl | rfl | rfl | rfl | rfl <;> simp only [droppedZ, Rt.ten, Rt.minute, Rt.day, Nat.reduceMul, Nat.reduceSub, Nat.zero_mul, Nat.add_zero] at * <;> omega
  refine ⟨key.2, key.1, ?_⟩
  unfold countZ
  rw [key2]
  have h1 := key.1
  unfold indexZ
  omega

theorem index_count {x : Rt} (h : x ∈ rtL) {n : Nat} (hn : n < x.day) : indexZ x (countZ x n / x.minute) (countZ x n / x.base % 60) (countZ x n % x.base) = n := by
  have h1 := count_in h hn
  have h2 : countZ x n / x.minute * x.minute + countZ x n / x.base % 60 * x.base + countZ x n % x.base = countZ x n := by
    generalize countZ x n = c
    rcases rt_cases h with rfl | rfl | rfl | rfl | rfl | rfl | rfl | rfl <;> simp only [Rt.minute] <;> omega
  unfold indexZ
  rw [h2, ← h1.2.1]
  unfold countZ
  omega
/-- The bytes of a timecode: the separator, hours, minutes, seconds, frames. -/
def two (n : Nat) : List Nat := [48 + n / 10, 48 + n % 10]
def Rt.sep (x : Rt) : Nat := if 0 < x.drop then 59 else 58
def txtL (p h m s f : Nat) : List Nat := two h ++ [58] ++ two m ++ [58] ++ two s ++ [p] ++ two f
def fmtL (x : Rt) (n : Nat) : List Nat := txtL x.sep (countZ x n / x.base / 3600) (countZ x n / x.base / 60 % 60) (countZ x n / x.base % 60) (countZ x n % x.base)
def num2 (a b lim : Nat) : Option Nat := if (48 ≤ a ∧ a ≤ 57) ∧ (48 ≤ b ∧ b ≤ 57) ∧ 10 * (a - 48) + (b - 48) < lim then some (10 * (a - 48) + (b - 48)) else none
def parseZ (x : Rt) (l : List Nat) : Option Nat :=
  if l.getD 2 0 = 58 ∧ l.getD 5 0 = 58 ∧ l.getD 8 0 = x.sep then
    match num2 (l.getD 0 0) (l.getD 1 0) 24, num2 (l.getD 3 0) (l.getD 4 0) 60, num2 (l.getD 6 0) (l.getD 7 0) 60, num2 (l.getD 9 0) (l.getD 10 0) x.base with
    | some h, some m, some s, some f => if m % 10 ≠ 0 ∧ s = 0 ∧ f < x.drop then none else some (indexZ x (60 * h + m) s f)
    | _, _, _, _ => none
  else none

theorem num2_two {n lim : Nat} (h : n < lim) (hl : lim ≤ 100) : num2 (48 + n / 10) (48 + n % 10) lim = some n := by
  unfold num2
  rw [if_pos (by omega)]
  congr 1; omega
theorem num2_some {a b lim n : Nat} (h : num2 a b lim = some n) : n < lim ∧ a = 48 + n / 10 ∧ b = 48 + n % 10 := by
  unfold num2 at h
  split at h
  · rename_i hc
    have := Option.some.inj h
    omega
  · cases h

theorem base_le {x : Rt} (h : x ∈ rtL) : 24 ≤ x.base ∧ x.base ≤ 60 ∧ x.drop < x.base := by
  rcases rt_cases h with rfl | rfl | rfl | rfl | rfl | rfl | rfl | rfl <;> decide

theorem parse_txt {x : Rt} {h m s f : Nat} (hb : x.base ≤ 100) (h1 : h < 24) (h2 : m < 60) (h3 : s < 60) (h4 : f < x.base) :
    parseZ x (txtL x.sep h m s f) = if m % 10 ≠ 0 ∧ s = 0 ∧ f < x.drop then none else some (indexZ x (60 * h + m) s f) := by
  unfold parseZ txtL two
  simp only [List.cons_append, List.nil_append, List.getD_cons_zero, List.getD_cons_succ, and_self, if_true]
  rw [num2_two h1 (by decide), num2_two h2 (by decide), num2_two h3 (by decide), num2_two h4 hb]

/-- Parse of Format. -/
theorem parse_fmt {x : Rt} (h : x ∈ rtL) {n : Nat} (hn : n < x.day) : parseZ x (fmtL x n) = some n := by
  obtain ⟨c1, c2, c3, c4⟩ := count_in h hn
  have hi := index_count h hn
  have hb := base_le h
  unfold fmtL
  have hm : 60 * (countZ x n / x.base / 3600) + countZ x n / x.base / 60 % 60 = countZ x n / x.minute ∧ countZ x n / x.base / 3600 < 24 := by
    generalize countZ x n = c at *
    rcases rt_cases h with rfl | rfl | rfl | rfl | rfl | rfl | rfl | rfl <;> simp only [Rt.minute] at * <;> omega
  rw [parse_txt (by omega) hm.2 (by omega) (by omega) (Nat.mod_lt _ (by omega)), hm.1, hi]
  rw [if_neg]
  intro hc
  have := c4 hc.2.1 hc.2.2
  omega

theorem parse_some {x : Rt} {l : List Nat} {n : Nat} (hl : l.length = 11) (hp : parseZ x l = some n) :
    ∃ h m s f, h < 24 ∧ m < 60 ∧ s < 60 ∧ f < x.base ∧ l = txtL x.sep h m s f ∧ ¬ (m % 10 ≠ 0 ∧ s = 0 ∧ f < x.drop) ∧ n = indexZ x (60 * h + m) s f := by
  match l, hl with
  | [a0, a1, a2, a3, a4, a5, a6, a7, a8, a9, a10], _ =>
    unfold parseZ at hp
    simp only [List.getD_cons_zero, List.getD_cons_succ] at hp
    split at hp
    · rename_i hc
      obtain ⟨rfl, rfl, rfl⟩ := hc
      split at hp
      · rename_i h m s f e1 e2 e3 e4
        split at hp
        · cases hp
        · rename_i hd
          obtain ⟨b1, rfl, rfl⟩ := num2_some e1
          obtain ⟨b2, rfl, rfl⟩ := num2_some e2
          obtain ⟨b3, rfl, rfl⟩ := num2_some e3
          obtain ⟨b4, rfl, rfl⟩ := num2_some e4
          exact ⟨h, m, s, f, b1, b2, b3, b4, rfl, hd, (Option.some.inj hp).symm⟩
      · cases hp
    · cases hp

/-- Format of Parse. -/
theorem fmt_parse {x : Rt} (h : x ∈ rtL) {l : List Nat} {n : Nat} (hl : l.length = 11) (hp : parseZ x l = some n) : n < x.day ∧ fmtL x n = l := by
  obtain ⟨hh, m, s, f, b1, b2, b3, b4, rfl, hd, rfl⟩ := parse_some hl hp
  obtain ⟨k1, k2, k3⟩ := count_of h (m := 60 * hh + m) (s := s) (f := f) (by omega) b3 b4 (by omega)
  refine ⟨k1, ?_⟩
  unfold fmtL
  rw [k3]
  have : ((60 * hh + m) * x.minute + s * x.base + f) / x.base / 3600 = hh ∧ ((60 * hh + m) * x.minute + s * x.base + f) / x.base / 60 % 60 = m ∧ ((60 * hh + m) * x.minute + s * x.base + f) / x.base % 60 = s ∧ ((60 * hh + m) * x.minute + s * x.base + f) % x.base = f := by
    clear k1 k2 k3 hp hl hd
    rcases rt_cases h with rfl | rfl | rfl | rfl | rfl | rfl | rfl | rfl <;> simp only [Rt.minute] at * <;> omega
  rw [this.1, this.2.1, this.2.2.1, this.2.2.2]

theorem two_lt {n : Nat} (h : n < 100) : ∀ a ∈ two n, a < 256 := by
  intro a ha
  simp only [two, List.mem_cons, List.not_mem_nil, or_false] at ha
  omega
theorem txt_len (p h m s f : Nat) : (txtL p h m s f).length = 11 := rfl
theorem fmt_len (x : Rt) (n : Nat) : (fmtL x n).length = 11 := rfl
end Go.Proofs.YtfpmmfoinjcclaaDoor
