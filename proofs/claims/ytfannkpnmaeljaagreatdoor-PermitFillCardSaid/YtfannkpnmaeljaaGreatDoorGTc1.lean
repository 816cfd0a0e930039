import Derived.Test.YtfannkpnmaeljaaGreatDoorRows
import Derived.WalkKit
import Derived.WalkSpells
import Derived.WalkLawsBesides
import Derived.Lib.Hide
import Derived.Below
import Derived.Laws.Cells
import Derived.Laws.Rows
import Derived.Laws.Tables
import Derived.Deep.QuietTactic
import Derived.BigQuiet
import Derived.StillTailTactics
import Derived.Deep.RegionHeld3
import Derived.OwnWalk
import Derived.Laws.MakeOwn
import Derived.Laws.AppendOwn
import Derived.Laws.OwnMore
import Derived.Maps.AppendAt
import Derived.RangeFuncBox
import Derived.OwnWalkIn
set_option linter.unusedVariables false
set_option linter.unusedSimpArgs false
/- Timecodes as plain numbers. -/
namespace Go.Proofs.YtfannkpnmaeljaaGreatDoor.Tc

structure Rt where
  num : Nat
  den : Nat
  base : Nat
  drop : Nat
deriving DecidableEq

def rtL : List Rt := [⟨24000, 1001, 24, 0⟩, ⟨24, 1, 24, 0⟩, ⟨25, 1, 25, 0⟩, ⟨30000, 1001, 30, 2⟩, ⟨30, 1, 30, 0⟩, ⟨50, 1, 50, 0⟩, ⟨60000, 1001, 60, 4⟩, ⟨60, 1, 60, 0⟩]
def Rt.minute (x : Rt) : Nat := 60 * x.base
def Rt.ten (x : Rt) : Nat := 600 * x.base - 9 * x.drop
def Rt.day (x : Rt) : Nat := 86400 * x.base - 1296 * x.drop
/-- How many are dropped in the first m minutes. -/
def droppedZ (x : Rt) (m : Nat) : Nat := x.drop * (m - (m + 9) / 10)
def startedZ (x : Rt) (n : Nat) : Nat :=
  if n % x.ten < x.minute then 10 * (n / x.ten) + 1 else 10 * (n / x.ten) + 2 + (n % x.ten - x.minute) / (x.minute - x.drop)
def countZ (x : Rt) (n : Nat) : Nat := n + droppedZ x (startedZ x n)
/-- The index of the timecode of minute m, second s and frame f. -/
def indexZ (x : Rt) (m s f : Nat) : Nat := m * x.minute + s * x.base + f - droppedZ x (m + 1)

theorem rt_cases {x : Rt} (h : x ∈ rtL) : x = ⟨24000, 1001, 24, 0⟩ ∨ x = ⟨24, 1, 24, 0⟩ ∨ x = ⟨25, 1, 25, 0⟩ ∨ x = ⟨30000, 1001, 30, 2⟩ ∨ x = ⟨30, 1, 30, 0⟩ ∨ x = ⟨50, 1, 50, 0⟩ ∨ x = ⟨60000, 1001, 60, 4⟩ ∨ x = ⟨60, 1, 60, 0⟩ := by
  simpa [rtL] using h

theorem day_pos {x : Rt} (h : x ∈ rtL) : 0 < x.day ∧ x.day ≤ 5184000 := by
  rcases rt_cases h with rfl | rfl | rfl | rfl | rfl | rfl | rfl | rfl <;> decide

/-- The timecode of an index is one of the day. -/
theorem count_in {x : Rt} (h : x ∈ rtL) {n : Nat} (hn : n < x.day) :
    countZ x n < 86400 * x.base ∧ startedZ x n = countZ x n / x.minute + 1 ∧ droppedZ x (startedZ x n) ≤ countZ x n ∧ (countZ x n / x.base % 60 = 0 → countZ x n % x.base < x.drop → countZ x n / x.minute % 10 = 0) := by
  unfold countZ
  obtain ⟨k, hk⟩ : ∃ k, startedZ x n = k := ⟨_, rfl⟩
  rw [hk]
  unfold startedZ at hk
  by_cases hlt : n % x.ten < x.minute
  · rw [if_pos hlt] at hk
    rcases rt_cases h with rfl | rfl | rfl | rfl | rfl | rfl | rfl | rfl <;> simp only [droppedZ, Rt.ten, Rt.minute, Rt.day, Nat.reduceMul, Nat.reduceSub, Nat.zero_mul, Nat.add_zero] at * <;> omega
  · rw [if_neg hlt] at hk
    rcases rt_cases h with rfl | rfl | rfl | rfl | rfl | rfl | rfl | rfl <;> simp only [droppedZ, Rt.ten, Rt.minute, Rt.day, Nat.reduceMul, Nat.reduceSub, Nat.zero_mul, Nat.add_zero] at *
    · omega
    · omega
    · omega
    · refine ⟨by omega, by omega, by omega, fun e1 e2 => ?_⟩
      obtain ⟨t, ht⟩ : ∃ t, n / 17982 = t := ⟨_, rfl⟩
      obtain ⟨q, hq⟩ : ∃ q, (n % 17982 - 1800) / 1798 = q := ⟨_, rfl⟩
      obtain ⟨p, hp⟩ : ∃ p, (n % 17982 - 1800) % 1798 = p := ⟨_, rfl⟩
      have hd : k - (k + 9) / 10 = 9 * t + 1 + q := by omega
      have hc : n + 2 * (k - (k + 9) / 10) = 1800 * (10 * t + 1 + q) + (2 + p) := by omega
      rw [hc] at e1 e2
      omega
    · omega
    · omega
    · refine ⟨by omega, by omega, by omega, fun e1 e2 => ?_⟩
      obtain ⟨t, ht⟩ : ∃ t, n / 35964 = t := ⟨_, rfl⟩
      obtain ⟨q, hq⟩ : ∃ q, (n % 35964 - 3600) / 3596 = q := ⟨_, rfl⟩
      obtain ⟨p, hp⟩ : ∃ p, (n % 35964 - 3600) % 3596 = p := ⟨_, rfl⟩
      have hd : k - (k + 9) / 10 = 9 * t + 1 + q := by omega
      have hc : n + 4 * (k - (k + 9) / 10) = 3600 * (10 * t + 1 + q) + (4 + p) := by omega
      rw [hc] at e1 e2
      omega
    · omega

/-- A timecode that is not dropped has the index whose timecode it is. -/
theorem count_of {x : Rt} (h : x ∈ rtL) {m s f : Nat} (hm : m < 1440) (hs : s < 60) (hf : f < x.base) (hd : s = 0 → f < x.drop → m % 10 = 0) :
    indexZ x m s f < x.day ∧ droppedZ x (m + 1) ≤ m * x.minute + s * x.base + f ∧ countZ x (indexZ x m s f) = m * x.minute + s * x.base + f := by
  have key : droppedZ x (m + 1) ≤ m * x.minute + s * x.base + f ∧ indexZ x m s f < x.day := by
    rcases rt_cases h with rfl | rfl | rfl | rfl | rfl | rfl | rfl | rfl <;> simp only [indexZ, droppedZ, Rt.ten, Rt.minute, Rt.day, Nat.reduceMul, Nat.reduceSub, Nat.zero_mul, Nat.add_zero] at * <;> omega
  have key2 : startedZ x (indexZ x m s f) = m + 1 := by
    obtain ⟨i, hi⟩ : ∃ i, indexZ x m s f = i := ⟨_, rfl⟩
    rw [hi]; rw [hi] at key
    unfold startedZ
    unfold indexZ at hi
    by_cases hlt : i % x.ten < x.minute
    · rw [if_pos hlt]
      rcases rt_cases h with rfl | rfl | rfl | rfl | rfl | rfl | rfl | rfl <;> simp only [droppedZ, Rt.ten, Rt.minute, Rt.day, Nat.reduceMul, Nat.reduceSub, Nat.zero_mul, Nat.add_zero] at * <;> omega
    · rw [if_neg hlt]
      rcases rt_cases h with rfl | rfl | rfl | rfl | rfl | rfl | rfl | rfl <;> simp only [droppedZ, Rt.ten, Rt.minute, Rt.day, Nat.reduceMul, Nat.reduceSub, Nat.zero_mul, Nat.add_zero] at * <;> omega
  refine ⟨key.2, key.1, ?_⟩
  unfold countZ
  rw [key2]
  have h1 := key.1
  unfold indexZ
  omega

theorem index_count {x : Rt} (h : x ∈ rtL) {n : Nat} (hn : n < x.day) : indexZ x (countZ x n / x.minute) (countZ x n / x.base % 60) (countZ x n % x.base) = n := by
  have h1 := count_in h hn
  have h2 : countZ x n / x.minute * x.minute + countZ x n / x.base % 60 * x.base + countZ x n % x.base = countZ x n := by
    generalize countZ x n = c
    rcases rt_cases h with rfl | rfl | rfl | rfl | rfl | rfl | rfl | rfl <;> simp only [Rt.minute] <;> omega
  unfold indexZ
  rw [h2, ← h1.2.1]
  unfold countZ
  omega
/-- The bytes of a timecode: the separator, hours, minutes, seconds, frames. -/
def two (n : Nat) : List Nat := [48 + n / 10, 48 + n % 10]
def Rt.sep (x : Rt) : Nat := if 0 < x.drop then 59 else 58
def txtL (p h m s f : Nat) : List Nat := two h ++ [58] ++ two m ++ [58] ++ two s ++ [p] ++ two f
def fmtL (x : Rt) (n : Nat) : List Nat := txtL x.sep (countZ x n / x.base / 3600) (countZ x n / x.base / 60 % 60) (countZ x n / x.base % 60) (countZ x n % x.base)
def num2 (a b lim : Nat) : Option Nat := if (48 ≤ a ∧ a ≤ 57) ∧ (48 ≤ b ∧ b ≤ 57) ∧ 10 * (a - 48) + (b - 48) < lim then some (10 * (a - 48) + (b - 48)) else none
def parseZ (x : Rt) (l : List Nat) : Option Nat :=
  if l.getD 2 0 = 58 ∧ l.getD 5 0 = 58 ∧ l.getD 8 0 = x.sep then
    match num2 (l.getD 0 0) (l.getD 1 0) 24, num2 (l.getD 3 0) (l.getD 4 0) 60, num2 (l.getD 6 0) (l.getD 7 0) 60, num2 (l.getD 9 0) (l.getD 10 0) x.base with
    | some h, some m, some s, some f => if m % 10 ≠ 0 ∧ s = 0 ∧ f < x.drop then none else some (indexZ x (60 * h + m) s f)
    | _, _, _, _ => none
  else none

theorem num2_two {n lim : Nat} (h : n < lim) (hl : lim ≤ 100) : num2 (48 + n / 10) (48 + n % 10) lim = some n := by
  unfold num2
  rw [if_pos (by omega)]
  congr 1; omega
theorem num2_some {a b lim n : Nat} (h : num2 a b lim = some n) : n < lim ∧ a = 48 + n / 10 ∧ b = 48 + n % 10 := by
  unfold num2 at h
  split at h
  · rename_i hc
    have := Option.some.inj h
    omega
  · cases h

theorem base_le {x : Rt} (h : x ∈ rtL) : 24 ≤ x.base ∧ x.base ≤ 60 ∧ x.drop < x.base := by
  rcases rt_cases h with rfl | rfl | rfl | rfl | rfl | rfl | rfl | rfl <;> decide

theorem parse_txt {x : Rt} {h m s f : Nat} (hb : x.base ≤ 100) (h1 : h < 24) (h2 : m < 60) (h3 : s < 60) (h4 : f < x.base) :
    parseZ x (txtL x.sep h m s f) = if m % 10 ≠ 0 ∧ s = 0 ∧ f < x.drop then none else some (indexZ x (60 * h + m) s f) := by
  unfold parseZ txtL two
  simp only [List.cons_append, List.nil_append, List.getD_cons_zero, List.getD_cons_succ, and_self, if_true]
  rw [num2_two h1 (by decide), num2_two h2 (by decide), num2_two h3 (by decide), num2_two h4 hb]

/-- Parse of Format. -/
theorem parse_fmt {x : Rt} (h : x ∈ rtL) {n : Nat} (hn : n < x.day) : parseZ x (fmtL x n) = some n := by
  obtain ⟨c1, c2, c3, c4⟩ := count_in h hn
  have hi := index_count h hn
  have hb := base_le h
  unfold fmtL
  have hm : 60 * (countZ x n / x.base / 3600) + countZ x n / x.base / 60 % 60 = countZ x n / x.minute ∧ countZ x n / x.base / 3600 < 24 := by
    generalize countZ x n = c at *
    rcases rt_cases h with rfl | rfl | rfl | rfl | rfl | rfl | rfl | rfl <;> simp only [Rt.minute] at * <;> omega
  rw [parse_txt (by omega) hm.2 (by omega) (by omega) (Nat.mod_lt _ (by omega)), hm.1, hi]
  rw [if_neg]
  intro hc
  have := c4 hc.2.1 hc.2.2
  omega

theorem parse_some {x : Rt} {l : List Nat} {n : Nat} (hl : l.length = 11) (hp : parseZ x l = some n) :
    ∃ h m s f, h < 24 ∧ m < 60 ∧ s < 60 ∧ f < x.base ∧ l = txtL x.sep h m s f ∧ ¬ (m % 10 ≠ 0 ∧ s = 0 ∧ f < x.drop) ∧ n = indexZ x (60 * h + m) s f := by
  match l, hl with
  | [a0, a1, a2, a3, a4, a5, a6, a7, a8, a9, a10], _ =>
    unfold parseZ at hp
    simp only [List.getD_cons_zero, List.getD_cons_succ] at hp
    split at hp
    · rename_i hc
      obtain ⟨rfl, rfl, rfl⟩ := hc
      split at hp
      · rename_i h m s f e1 e2 e3 e4
        split at hp
        · cases hp
        · rename_i hd
          obtain ⟨b1, rfl, rfl⟩ := num2_some e1
          obtain ⟨b2, rfl, rfl⟩ := num2_some e2
          obtain ⟨b3, rfl, rfl⟩ := num2_some e3
          obtain ⟨b4, rfl, rfl⟩ := num2_some e4
          exact ⟨h, m, s, f, b1, b2, b3, b4, rfl, hd, (Option.some.inj hp).symm⟩
      · cases hp
    · cases hp

/-- Format of Parse. -/
theorem fmt_parse {x : Rt} (h : x ∈ rtL) {l : List Nat} {n : Nat} (hl : l.length = 11) (hp : parseZ x l = some n) : n < x.day ∧ fmtL x n = l := by
  obtain ⟨hh, m, s, f, b1, b2, b3, b4, rfl, hd, rfl⟩ := parse_some hl hp
  obtain ⟨k1, k2, k3⟩ := count_of h (m := 60 * hh + m) (s := s) (f := f) (by omega) b3 b4 (by omega)
  refine ⟨k1, ?_⟩
  unfold fmtL
  rw [k3]
  have : ((60 * hh + m) * x.minute + s * x.base + f) / x.base / 3600 = hh ∧ ((60 * hh + m) * x.minute + s * x.base + f) / x.base / 60 % 60 = m ∧ ((60 * hh + m) * x.minute + s * x.base + f) / x.base % 60 = s ∧ ((60 * hh + m) * x.minute + s * x.base + f) % x.base = f := by
    clear k1 k2 k3 hp hl hd
    rcases rt_cases h with rfl | rfl | rfl | rfl | rfl | rfl | rfl | rfl <;> simp only [Rt.minute] at * <;> omega
  rw [this.1, this.2.1, this.2.2.1, this.2.2.2]

theorem two_lt {n : Nat} (h : n < 100) : ∀ a ∈ two n, a < 256 := by
  intro a ha
  simp only [two, List.mem_cons, List.not_mem_nil, or_false] at ha
  omega
theorem txt_len (p h m s f : Nat) : (txtL p h m s f).length = 11 := rfl
theorem fmt_len (x : Rt) (n : Nat) : (fmtL x n).length = 11 := rfl
end Go.Proofs.YtfannkpnmaeljaaGreatDoor.Tc

/- Contracts of the small functions of timecode. -/
namespace Go.Proofs.YtfannkpnmaeljaaGreatDoor.Tc
open Go.RowKit

theorem ret_int {k : IntKind} {a b : Int} (h : a = b) : Ending.returned (.int k a) = .returned (.int k b) := by rw [h]
theorem bthen {a b c : World} (h : Below a.heap.size a b) (k : Below b.heap.size b c) : Below a.heap.size a c := h.trans (k.mono h.size)
theorem bcell {W w1 : World} (hb : Below W.heap.size W w1) : (∀ b o, b < W.heap.size → w1.cell? ⟨b, o, none⟩ = W.cell? ⟨b, o, none⟩) ∧ (∀ b o, b < W.heap.size → w1.frozen? ⟨b, o, none⟩ = W.frozen? ⟨b, o, none⟩) :=
  ⟨fun b o h => hb.cell (p := ⟨b, o, none⟩) h, fun b o h => hb.frozen (p := ⟨b, o, none⟩) h⟩

/-! ### Arrays in blocks of their own -/
def Arr (W : World) (B : Nat) (t : TypeId) (vs : List Value) : Prop := W.heap[B]? = some (.cells vs.toArray t (0, 0))

theorem Arr.cell {W : World} {B : Nat} {t : TypeId} {vs : List Value} (h : Arr W B t vs) {i : Nat} {v : Value} (hv : vs[i]? = some v) : W.cell? ⟨B, i, none⟩ = some v := by
  rw [cell_of_row _ _ i _ t (0, 0) h]
  simpa using hv
theorem Arr.below {W W' : World} {B n : Nat} {t : TypeId} {vs : List Value} (h : Arr W B t vs) (hb : Below n W W') (hB : B < n) : Arr W' B t vs := (hb.block B hB).trans h
theorem Arr.lt {W : World} {B : Nat} {t : TypeId} {vs : List Value} (h : Arr W B t vs) : B < W.heap.size := (Array.getElem?_eq_some_iff.1 h).1
theorem Arr.alloc {W : World} {B : Nat} {t : TypeId} {vs : List Value} (h : Arr W B t vs) (o : Obj) : Arr (W.alloc o) B t vs := (Below.heap_alloc _ _ _ h.lt).trans h
theorem Arr.new (W : World) (t : TypeId) (vs : List Value) : Arr (W.alloc (.cells vs.toArray t)) W.heap.size t vs := heap_alloc_new W _
theorem Arr.new' {W : World} {n : Nat} (t : TypeId) (vs : List Value) (hn : n = W.heap.size) : Arr (W.alloc (.cells vs.toArray t)) n t vs := hn ▸ heap_alloc_new W _
theorem Arr.frozen {W : World} {B : Nat} {t : TypeId} {vs : List Value} (h : Arr W B t vs) (i : Nat) : W.frozen? ⟨B, i, none⟩ = false := by
  unfold World.frozen?
  rw [h]
  simp
theorem Arr.drew {W : World} {B : Nat} {t : TypeId} {vs : List Value} (h : Arr W B t vs) : Arr W.drew B t vs := h

theorem Arr.set {W : World} {B : Nat} {t : TypeId} {vs : List Value} (h : Arr W B t vs) (i : Nat) (v : Value) : Arr (W.setCell ⟨B, i, none⟩ v) B t (vs.set i v) := by
  have := heap_setCell_same W B i _ t v h
  unfold Arr
  rw [this]; simp
theorem Arr.set_other {W : World} {B C : Nat} {t : TypeId} {vs : List Value} (h : Arr W B t vs) (i : Nat) (v : Value) (hne : C ≠ B) : Arr (W.setCell ⟨C, i, none⟩ v) B t vs := by
  unfold Arr World.setCell
  simp [Array.getElem?_modify, hne]
  exact h

theorem Arr.row {W : World} {B : Nat} {t : TypeId} {vs : List Value} (h : Arr W B t vs) (us : List Value) : Arr (W.setRow B us.toArray) B t us := setRow_heap _ _ _ _ _ _ h
theorem Arr.row_other {W : World} {B C : Nat} {t : TypeId} {vs : List Value} (h : Arr W B t vs) (us : Array Value) (hne : C ≠ B) : Arr (W.setRow C us) B t vs := (setRow_other _ _ _ _ (Ne.symm hne)).trans h
theorem below_setRow {n C : Nat} {w W : World} (h : Below n w W) (hC : n ≤ C) (us : Array Value) : Below n w (W.setRow C us) :=
  h.trans ⟨rfl, rfl, rfl, by simp, fun k hk => setRow_other _ _ _ _ (by omega)⟩

theorem Arr.load {P : Program} {W : World} {B : Nat} {t : TypeId} {vs : List Value} (h : Arr W B t vs) {n : Nat} (hn : vs.length = n) :
    (loadCellsFrom ⟨B, 0, none⟩ 0 n #[]).run P W = .ok vs.toArray W := by
  subst hn
  have := run_loadCells_list (P := P) W ⟨B, 0, none⟩ vs (fun j v hv => by
    have hadd : (⟨B, 0, none⟩ : Addr).add j = ⟨B, j, none⟩ := by unfold Addr.add; split <;> simp_all
    rw [hadd]; exact h.cell hv)
  simpa [loadCells] using this

theorem Arr.store {P : Program} {W : World} {B : Nat} {t : TypeId} {vs : List Value} (h : Arr W B t vs) (out : Array Value) (hi : (P.info? t).map (·.size) = some out.size) (hs : vs.toArray.size = out.size) (h1 : out.all (·.oneCell') = true) :
    (storeCells ⟨B, 0, none⟩ out.toList 0).run P W = .ok () (W.setRow B out) := by
  have := run_storeVar_row (P := P) W B t t vs.toArray out h hi hs h1
  cases hq : P.info? t with
  | none => simp [hq] at hi
  | some i =>
    have hs : out.size = i.size := by simp [hq] at hi; omega
    simpa [storeVar, sizeOf, typeInfo, hq, Value.cells, hs] using this

/-- A store of a whole array: the world behind it by what is known of it. -/
theorem wpList_store_abs {P : Program} {ops : Array Oper} {rest : List Oper} {o : Oper} {a : Act} {w : World} {Q : Exit → Act → World → Prop} (hgd : o.guard = none) (ty : TypeId) (x y : Operand) (ho : o.op = .store ty x y)
    (g : Nat) (cells : Array Value) (hx : a.eval x = .pointer (some ⟨g, 0, none⟩)) (hy : a.eval y = .agg cells)
    (t : TypeId) (old : Array Value) (hg : w.heap[g]? = some (.cells old t (0, 0))) (hi : (P.info? ty).map (·.size) = some cells.size)
    (hold : old.size = cells.size) (h1 : cells.all (·.oneCell') = true)
    (h : ∀ W, W.heap[g]? = some (.cells cells t (0, 0)) → Below g w W → (∀ k, k ≠ g → W.heap[k]? = w.heap[k]?) → wpList P ops Q rest (a.put o.dst undef) W) : wpList P ops Q (o :: rest) a w :=
  wpList_store_row hgd ty x y ho g cells hx hy t old hg hi hold h1 (h _ (setRow_heap _ _ _ _ _ _ hg) (below_setRow (Below.refl _ _) (Nat.le_refl _) _) (fun k hk => setRow_other _ _ _ _ hk))

abbrev iv (n : Int) : Value := .int .i64 n
def fmtRow (x : Rt) : List Value := [iv x.num, iv x.den, iv x.base, iv x.drop]
def fmtV : List Value := rtL.flatMap fmtRow
/-- The table of rates lies in memory. -/
def FmtAt (W : World) : Prop := ∃ t fr, W.heap[0]? = some (.cells fmtV.toArray t fr)
theorem FmtAt.lt {W : World} (h : FmtAt W) : 0 < W.heap.size := by
  obtain ⟨t, fr, h⟩ := h
  exact (Array.getElem?_eq_some_iff.1 h).1
theorem FmtAt.below {W W' : World} (h : FmtAt W) (hb : Below W.heap.size W W') : FmtAt W' := by
  have hl := h.lt
  obtain ⟨t, fr, h⟩ := h
  exact ⟨t, fr, (hb.block _ hl).trans h⟩

def Rt.val (x : Rt) : Value := .agg #[iv x.num, iv x.den]
def Rt.row (x : Rt) : Value := .agg #[iv x.num, iv x.den, iv x.base, iv x.drop]

def rtAt (k : Nat) : Rt := rtL.getD k ⟨0, 0, 0, 0⟩
theorem rtAt_mem {k : Nat} (h : k < 8) : rtAt k ∈ rtL := by
  match k, h with
  | 0, _ | 1, _ | 2, _ | 3, _ | 4, _ | 5, _ | 6, _ | 7, _ => decide
set_option maxRecDepth 100000 in
theorem idx_fmt {k : Nat} (hk : k < 8) (W : World) : Sem.run Tryz.prog (Instr.index 120 (.agg fmtV.toArray) (.int .i64 k)) W = .ok (rtAt k).row W := by
  match k, hk with
  | 0, _ | 1, _ | 2, _ | 3, _ | 4, _ | 5, _ | 6, _ | 7, _ => first | rfl | kernel_rfl

set_option maxRecDepth 100000 in
set_option maxHeartbeats 1000000 in
theorem find_no (a b : Int) (w : World) (hF : FmtAt w) (h : ∀ x ∈ rtL, ¬ (a = x.num ∧ b = x.den)) :
    Calls Tryz.prog 79 #[.agg #[iv a, iv b]] w fun e w' => e = .returned (.tuple #[.agg #[iv 0, iv 0, iv 0, iv 0], .bool false]) ∧ Below w.heap.size w w' := by
  have hl := hF.lt
  obtain ⟨t, fr, hF⟩ := hF
  obtain ⟨arr, harr⟩ : ∃ arr, arr = fmtV.toArray := ⟨_, rfl⟩
  rw [← harr] at hF
  have hi : (Tryz.prog.info? 120).map (·.size) = some arr.size := by rw [harr]; kernel_rfl
  have HA := Lib.hid harr; clear harr
  have hB : ∀ o1 o2, ((w.alloc o1).alloc o2).heap[0]? = some (.cells arr t fr) := fun o1 o2 => ((((Below.refl _ _).alloc (Nat.le_refl _) o1).alloc (by simp) o2).block _ hl).trans hF
  go_enter Tryz.func79, Tryz.ntmps79
  go_wp2_with (refine wpList_load_row rfl 120 _ rfl 0 rfl t arr fr _ (hB _ _) Tryz.underlying120 rfl hi ?_)
  have hs2 : ∀ o1 o2, ((w.alloc o1).alloc o2).heap.size = w.heap.size + 2 := fun o1 o2 => by simp
  obtain ⟨W0, hW0, hb0, hsz, ka, kz⟩ : ∃ W0, (w.alloc (.cells #[iv a, iv b] 23)).alloc (.cells #[iv 0, iv 0, iv 0, iv 0] 99) = W0 ∧ Below w.heap.size w W0 ∧ W0.heap.size = w.heap.size + 2 ∧ Arr W0 w.heap.size 23 [iv a, iv b] ∧ Arr W0 (w.heap.size + 1) 99 [iv 0, iv 0, iv 0, iv 0] :=
    ⟨_, rfl, ((Below.refl _ _).alloc (Nat.le_refl _) _).alloc (by simp) _, by simp, (Arr.new w 23 [iv a, iv b]).alloc _, Arr.new' _ [iv 0, iv 0, iv 0, iv 0] (by simp)⟩
  rw [hW0]; clear hW0
  have k0 := ka.cell (i := 0) rfl
  have k1 := ka.cell (i := 1) rfl
  go_loopw [7] (fun i wr => ∃ k : Nat, i = .int .i64 k ∧ k ≤ 8 ∧ Below W0.heap.size W0 wr) (fun i _ => 8 - (intOf i).toNat)
  case atStart => exact ⟨0, rfl, by omega, Below.refl _ _⟩
  case round =>
    obtain ⟨k, rfl, hk, hB⟩ := hrel
    by_cases hk1 : k < 8
    · have hx := rtAt_mem hk1
      have hidx := fun W => idx_fmt hk1 W
      rw [← HA.out] at hidx
      have hne := h _ hx
      generalize rtAt k = x at *
      unfold Rt.row at hidx
      have hz : w.heap.size + 1 < wr.heap.size := by have := hB.size; omega
      have k0' := (hB.cell (p := ⟨w.heap.size, 0, none⟩) (by simp; omega)).trans k0
      have k1' := (hB.cell (p := ⟨w.heap.size, 1, none⟩) (by simp; omega)).trans k1
      have q0 : ∀ o, (wr.alloc o).cell? ⟨w.heap.size, 0, none⟩ = some (iv a) := fun o => ((hB.alloc hB.size o).cell (p := ⟨w.heap.size, 0, none⟩) (by simp; omega)).trans k0
      have q1 : ∀ o, (wr.alloc o).cell? ⟨w.heap.size, 1, none⟩ = some (iv b) := fun o => ((hB.alloc hB.size o).cell (p := ⟨w.heap.size, 1, none⟩) (by simp; omega)).trans k1
      go_wp2_with fail
      all_goals
        go_roundw
        case rel => exact ⟨k + 1, by go_num, by omega, hB.alloc hB.size _⟩
        case measure => simp [intOf]; omega
    · obtain rfl : k = 8 := by omega
      have hz : w.heap.size + 1 < wr.heap.size := by have := hB.size; omega
      have hk' := kz.below hB (by omega)
      have z0 := hk'.cell (i := 0) rfl
      have z1 := hk'.cell (i := 1) rfl
      have z2 := hk'.cell (i := 2) rfl
      have z3 := hk'.cell (i := 3) rfl
      have f0 := fun i => hk'.frozen i
      have hb2 : Below w.heap.size w wr := hb0.trans (hB.mono (by omega))
      go_wp2_with fail
      have kf := (((hk'.set 0 (iv 0)).set 1 (iv 0)).set 2 (iv 0)).set 3 (iv 0)
      have hbF := ((((hb2.setCell (p := ⟨w.heap.size + 1, 0, none⟩) (by simp) (iv 0)).setCell (p := ⟨w.heap.size + 1, 1, none⟩) (by simp) (iv 0)).setCell (p := ⟨w.heap.size + 1, 2, none⟩) (by simp) (iv 0)).setCell (p := ⟨w.heap.size + 1, 3, none⟩) (by simp) (iv 0))
      generalize (((wr.setCell ⟨w.heap.size + 1, 0, none⟩ (iv 0)).setCell ⟨w.heap.size + 1, 1, none⟩ (iv 0)).setCell ⟨w.heap.size + 1, 2, none⟩ (iv 0)).setCell ⟨w.heap.size + 1, 3, none⟩ (iv 0) = WF at *
      have e0 := kf.cell (i := 0) rfl
      have e1 := kf.cell (i := 1) rfl
      have e2 := kf.cell (i := 2) rfl
      have e3 := kf.cell (i := 3) rfl
      exact bodyPost_ret (v := .tuple #[.agg #[iv 0, iv 0, iv 0, iv 0], .bool false]) (by simp [results, Tryz.results79, go_sem, e0, e1, e2, e3]) rfl ⟨rfl, hbF⟩

theorem rtAt_inj {i j : Nat} (hi : i < 8) (hj : j < 8) (h : (rtAt i).num = (rtAt j).num ∧ (rtAt i).den = (rtAt j).den) : i = j := by
  have : ∀ i : Fin 8, ∀ j : Fin 8, (rtAt i).num = (rtAt j).num ∧ (rtAt i).den = (rtAt j).den → i = j := by decide
  have := this ⟨i, hi⟩ ⟨j, hj⟩ h
  simpa using this
theorem rt_at {x : Rt} (h : x ∈ rtL) : ∃ i, i < 8 ∧ x = rtAt i := by
  rcases rt_cases h with rfl | rfl | rfl | rfl | rfl | rfl | rfl | rfl
  · exact ⟨0, by decide, rfl⟩
  · exact ⟨1, by decide, rfl⟩
  · exact ⟨2, by decide, rfl⟩
  · exact ⟨3, by decide, rfl⟩
  · exact ⟨4, by decide, rfl⟩
  · exact ⟨5, by decide, rfl⟩
  · exact ⟨6, by decide, rfl⟩
  · exact ⟨7, by decide, rfl⟩

set_option maxRecDepth 100000 in
set_option maxHeartbeats 1000000 in
theorem find_ok (x : Rt) (hx : x ∈ rtL) (w : World) (hF : FmtAt w) :
    Calls Tryz.prog 79 #[x.val] w fun e w' => e = .returned (.tuple #[x.row, .bool true]) ∧ Below w.heap.size w w' := by
  obtain ⟨i, hi8, hxi⟩ := rt_at hx
  have hinj : ∀ k, k < i → ¬ ((x.num : Int) = (rtAt k).num ∧ (x.den : Int) = (rtAt k).den) := fun k hk hc => by
    have := rtAt_inj hi8 (show k < 8 by omega) (by rw [← hxi]; omega)
    omega
  have hidx := fun W => idx_fmt hi8 W
  rw [← hxi] at hidx
  clear hxi hx
  unfold Rt.val Rt.row at *
  generalize x.num = a at *
  generalize x.den = b at *
  generalize x.base = c at *
  generalize x.drop = d at *
  clear x
  have hl := hF.lt
  obtain ⟨t, fr, hF⟩ := hF
  obtain ⟨arr, harr⟩ : ∃ arr, arr = fmtV.toArray := ⟨_, rfl⟩
  rw [← harr] at hF hidx
  have hi : (Tryz.prog.info? 120).map (·.size) = some arr.size := by rw [harr]; kernel_rfl
  have HA := Lib.hid harr; clear harr
  have hB : ∀ o1 o2, ((w.alloc o1).alloc o2).heap[0]? = some (.cells arr t fr) := fun o1 o2 => ((((Below.refl _ _).alloc (Nat.le_refl _) o1).alloc (by simp) o2).block _ hl).trans hF
  go_enter Tryz.func79, Tryz.ntmps79
  go_wp2_with (refine wpList_load_row rfl 120 _ rfl 0 rfl t arr fr _ (hB _ _) Tryz.underlying120 rfl hi ?_)
  obtain ⟨W0, hW0, hb0, hsz, ka, kz⟩ : ∃ W0, (w.alloc (.cells #[iv a, iv b] 23)).alloc (.cells #[iv 0, iv 0, iv 0, iv 0] 99) = W0 ∧ Below w.heap.size w W0 ∧ W0.heap.size = w.heap.size + 2 ∧ Arr W0 w.heap.size 23 [iv a, iv b] ∧ Arr W0 (w.heap.size + 1) 99 [iv 0, iv 0, iv 0, iv 0] :=
    ⟨_, rfl, ((Below.refl _ _).alloc (Nat.le_refl _) _).alloc (by simp) _, by simp, (Arr.new w 23 [iv a, iv b]).alloc _, Arr.new' _ [iv 0, iv 0, iv 0, iv 0] (by simp)⟩
  rw [hW0]; clear hW0
  have k0 := ka.cell (i := 0) rfl
  have k1 := ka.cell (i := 1) rfl
  go_loopw [7] (fun j wr => ∃ k : Nat, j = .int .i64 k ∧ k ≤ i ∧ Below W0.heap.size W0 wr) (fun j _ => 8 - (intOf j).toNat)
  case atStart => exact ⟨0, rfl, by omega, Below.refl _ _⟩
  case round =>
    obtain ⟨k, rfl, hk, hB⟩ := hrel
    have hk8 : k < 8 := by omega
    have hz : w.heap.size + 1 < wr.heap.size := by have := hB.size; omega
    have q0 : ∀ o, (wr.alloc o).cell? ⟨w.heap.size, 0, none⟩ = some (iv a) := fun o => ((hB.alloc hB.size o).cell (p := ⟨w.heap.size, 0, none⟩) (by simp; omega)).trans k0
    have q1 : ∀ o, (wr.alloc o).cell? ⟨w.heap.size, 1, none⟩ = some (iv b) := fun o => ((hB.alloc hB.size o).cell (p := ⟨w.heap.size, 1, none⟩) (by simp; omega)).trans k1
    by_cases hk1 : k < i
    · have hne := hinj k hk1
      have hidx := fun W => idx_fmt hk8 W
      rw [← HA.out] at hidx
      generalize rtAt k = y at *
      unfold Rt.row at hidx
      go_wp2_with fail
      all_goals
        go_roundw
        case rel => exact ⟨k + 1, by go_num, by omega, hB.alloc hB.size _⟩
        case measure => simp [intOf]; omega
    · obtain rfl : k = i := by omega
      obtain ⟨W1, hW1⟩ : ∃ W1, wr.alloc (.cells #[iv a, iv b, iv c, iv d] 99) = W1 := ⟨_, rfl⟩
      have hb1 : Below w.heap.size w W1 := by rw [← hW1]; exact (hb0.trans (hB.mono (by omega))).alloc (by omega) _
      have kn := (Arr.new wr 99 [iv a, iv b, iv c, iv d])
      have kk := (kz.below hB (by omega)).alloc (.cells #[iv a, iv b, iv c, iv d] 99)
      rw [hW1] at kk kn
      have q0' := q0 (.cells #[iv a, iv b, iv c, iv d] 99)
      have q1' := q1 (.cells #[iv a, iv b, iv c, iv d] 99)
      rw [hW1] at q0' q1'
      clear q0 q1
      have n0 := kn.cell (i := 0) rfl
      have n1 := kn.cell (i := 1) rfl
      have n2 := kn.cell (i := 2) rfl
      have n3 := kn.cell (i := 3) rfl
      have z0 := kk.cell (i := 0) rfl
      have z1 := kk.cell (i := 1) rfl
      have z2 := kk.cell (i := 2) rfl
      have z3 := kk.cell (i := 3) rfl
      have f0 := fun i => kk.frozen i
      go_wp2_with fail
      have kf := (((kk.set 0 (iv a)).set 1 (iv b)).set 2 (iv c)).set 3 (iv d)
      have hbF := ((((hb1.setCell (p := ⟨w.heap.size + 1, 0, none⟩) (by simp) (iv a)).setCell (p := ⟨w.heap.size + 1, 1, none⟩) (by simp) (iv b)).setCell (p := ⟨w.heap.size + 1, 2, none⟩) (by simp) (iv c)).setCell (p := ⟨w.heap.size + 1, 3, none⟩) (by simp) (iv d))
      generalize (((W1.setCell ⟨w.heap.size + 1, 0, none⟩ (iv a)).setCell ⟨w.heap.size + 1, 1, none⟩ (iv b)).setCell ⟨w.heap.size + 1, 2, none⟩ (iv c)).setCell ⟨w.heap.size + 1, 3, none⟩ (iv d) = WF at *
      have e0 := kf.cell (i := 0) rfl
      have e1 := kf.cell (i := 1) rfl
      have e2 := kf.cell (i := 2) rfl
      have e3 := kf.cell (i := 3) rfl
      exact bodyPost_ret (v := .tuple #[.agg #[iv a, iv b, iv c, iv d], .bool true]) (by simp [results, Tryz.results79, go_sem, e0, e1, e2, e3]) rfl ⟨rfl, hbF⟩
end Go.Proofs.YtfannkpnmaeljaaGreatDoor.Tc

/- The counting functions of timecode. -/
namespace Go.Proofs.YtfannkpnmaeljaaGreatDoor.Tc
open Go.RowKit

theorem box4 (w : World) (a b c d : Int) : ∃ W0, w.alloc (.cells #[iv a, iv b, iv c, iv d] 99) = W0 ∧ Below w.heap.size w W0 ∧ W0.heap.size = w.heap.size + 1 ∧
    W0.cell? ⟨w.heap.size, 0, none⟩ = some (iv a) ∧ W0.cell? ⟨w.heap.size, 1, none⟩ = some (iv b) ∧ W0.cell? ⟨w.heap.size, 2, none⟩ = some (iv c) ∧ W0.cell? ⟨w.heap.size, 3, none⟩ = some (iv d) :=
  have k := Arr.new w 99 [iv a, iv b, iv c, iv d]
  ⟨_, rfl, (Below.refl _ _).alloc (Nat.le_refl _) _, by simp, k.cell rfl, k.cell rfl, k.cell rfl, k.cell rfl⟩
theorem held4 {w w8 w9 : World} {B : Nat} {a b c d : Int} (hB : B < w.heap.size)
    (h : w8.cell? ⟨B, 0, none⟩ = some (iv a) ∧ w8.cell? ⟨B, 1, none⟩ = some (iv b) ∧ w8.cell? ⟨B, 2, none⟩ = some (iv c) ∧ w8.cell? ⟨B, 3, none⟩ = some (iv d) ∧ Below w.heap.size w w8) (hb : Below w8.heap.size w8 w9) :
    w9.cell? ⟨B, 0, none⟩ = some (iv a) ∧ w9.cell? ⟨B, 1, none⟩ = some (iv b) ∧ w9.cell? ⟨B, 2, none⟩ = some (iv c) ∧ w9.cell? ⟨B, 3, none⟩ = some (iv d) ∧ Below w.heap.size w w9 := by
  obtain ⟨h0, h1, h2, h3, h4⟩ := h
  have hs := h4.size
  exact ⟨(hb.cell (p := ⟨B, 0, none⟩) (by simp; omega)).trans h0, (hb.cell (p := ⟨B, 1, none⟩) (by simp; omega)).trans h1, (hb.cell (p := ⟨B, 2, none⟩) (by simp; omega)).trans h2, (hb.cell (p := ⟨B, 3, none⟩) (by simp; omega)).trans h3, bthen h4 hb⟩

set_option maxHeartbeats 400000 in
theorem isFrame_any (n : Int) (w : World) :
    Calls Tryz.prog 61 #[.int .i64 n] w fun e w' => e = .returned (.bool (decide (0 ≤ n ∧ n ≤ 100000000))) ∧ w = w' := by
  by_cases h : 0 ≤ n
  · go_enter Tryz.func61, Tryz.ntmps61
    go_wp2
    go_ret
    exact ⟨by simp [h], rfl⟩
  · go_enter Tryz.func61, Tryz.ntmps61
    go_wp2
    go_ret
    have hd : decide (0 ≤ n) = false := by simpa using h
    exact ⟨by simp [hd], rfl⟩

set_option maxHeartbeats 400000 in
theorem ceil_any (a b : Int) (w : World) (h1 : 0 ≤ a) (h2 : 1 ≤ b) (h3 : a ≤ 4611686018427387903) (h4 : b ≤ 4611686018427387903) :
    Calls Tryz.prog 57 #[.int .i64 a, .int .i64 b] w fun e w' => e = .returned (.int .i64 ((a + b - 1) / b)) ∧ w = w' := by
  go_enter Tryz.func57, Tryz.ntmps57
  go_wp2
  go_ret
  exact ⟨rfl, rfl⟩

theorem w64 {n : Int} (h1 : -9223372036854775808 ≤ n) (h2 : n ≤ 9223372036854775807) : IntKind.i64.wrap n = n := by
  rw [IntKind.wrap_i64]; omega

theorem below_drewN {B : Nat} {a w : World} (h : Below B a w) (n : Nat) : Below B a (w.drewN n) := ⟨h.os, h.tape, h.output, h.size, h.block⟩
end Go.Proofs.YtfannkpnmaeljaaGreatDoor.Tc

/- Valid, Seconds, Frames, Ticks, Convert. -/
namespace Go.Proofs.YtfannkpnmaeljaaGreatDoor.Tc
open Go.RowKit

/-- The rate is not one of the eight. -/
def NoRate (a b : Int) : Prop := ∀ x ∈ rtL, ¬ (a = x.num ∧ b = x.den)
theorem box2 (w : World) (a b : Int) : ∃ W0, w.alloc (.cells #[iv a, iv b] 23) = W0 ∧ Below w.heap.size w W0 ∧ W0.heap.size = w.heap.size + 1 ∧
    W0.cell? ⟨w.heap.size, 0, none⟩ = some (iv a) ∧ W0.cell? ⟨w.heap.size, 1, none⟩ = some (iv b) :=
  have k := Arr.new w 23 [iv a, iv b]
  ⟨_, rfl, (Below.refl _ _).alloc (Nat.le_refl _) _, by simp, k.cell rfl, k.cell rfl⟩
theorem keep2 {w8 w9 : World} {B : Nat} {a b : Int} (h0 : w8.cell? ⟨B, 0, none⟩ = some (iv a)) (h1 : w8.cell? ⟨B, 1, none⟩ = some (iv b)) (hb : Below w8.heap.size w8 w9) (hB : B < w8.heap.size) :
    w9.cell? ⟨B, 0, none⟩ = some (iv a) ∧ w9.cell? ⟨B, 1, none⟩ = some (iv b) :=
  ⟨(hb.cell (p := ⟨B, 0, none⟩) hB).trans h0, (hb.cell (p := ⟨B, 1, none⟩) hB).trans h1⟩
theorem rt_bd {x : Rt} (h : x ∈ rtL) : 24 ≤ x.num ∧ x.num ≤ 60000 ∧ 1 ≤ x.den ∧ x.den ≤ 1001 ∧ 24 ≤ x.base ∧ x.base ≤ 60 ∧ x.drop ≤ 4 := by
  rcases rt_cases h with rfl | rfl | rfl | rfl | rfl | rfl | rfl | rfl <;> decide
theorem prod_le {a b X Y : Nat} (h : a ≤ X) (k : b ≤ Y) : a * b ≤ X * Y := Nat.mul_le_mul h k
theorem wprod {a b p : Nat} (h : a * b = p) (hp : p ≤ 9223372036854775807) : IntKind.i64.wrap ((a : Int) * (b : Int)) = (p : Int) := by
  rw [← Int.natCast_mul, h]; exact w64 (by omega) (by omega)
theorem quo_nat {a b q : Nat} (h : a / b = q) : (a : Int) / (b : Int) = (q : Int) := by rw [← Int.natCast_ediv, h]
theorem tquo_nat {a b q : Nat} (h : a / b = q) : (a : Int).tdiv (b : Int) = (q : Int) := by rw [Int.tdiv_eq_ediv_of_nonneg (by omega), ← Int.natCast_ediv, h]

set_option maxHeartbeats 1000000 in
theorem valid_ok (x : Rt) (hx : x ∈ rtL) (w : World) (hF : FmtAt w) :
    Calls Tryz.prog 50 #[x.val] w fun e w' => e = .returned (.bool true) ∧ Below w.heap.size w w' := by
  have hf := fun W (h : Below w.heap.size w W) => find_ok x hx W (hF.below h)
  unfold Rt.val Rt.row at *
  go_enter Tryz.func50, Tryz.ntmps50
  go_wp2_with fail
  refine Calls.mono (hf _ ((Below.refl _ _).alloc (Nat.le_refl _) _)) ?_; rintro e w1 ⟨rfl, b1⟩
  go_wp2
  go_ret
  exact ⟨rfl, (((Below.refl _ _).alloc (Nat.le_refl _) _).trans (b1.mono (by simp))).alloc (by have := b1.size; simp at this; omega) _⟩

set_option maxHeartbeats 1000000 in
theorem valid_no (a b : Int) (hx : NoRate a b) (w : World) (hF : FmtAt w) :
    Calls Tryz.prog 50 #[.agg #[iv a, iv b]] w fun e w' => e = .returned (.bool false) ∧ Below w.heap.size w w' := by
  have hf := fun W (h : Below w.heap.size w W) => find_no a b W (hF.below h) hx
  go_enter Tryz.func50, Tryz.ntmps50
  go_wp2_with fail
  refine Calls.mono (hf _ ((Below.refl _ _).alloc (Nat.le_refl _) _)) ?_; rintro e w1 ⟨rfl, b1⟩
  go_wp2
  go_ret
  exact ⟨rfl, (((Below.refl _ _).alloc (Nat.le_refl _) _).trans (b1.mono (by simp))).alloc (by have := b1.size; simp at this; omega) _⟩

set_option maxHeartbeats 1000000 in
theorem seconds_ok (x : Rt) (hx : x ∈ rtL) (n : Nat) (hn : n ≤ 100000000) (w : World) (hF : FmtAt w) :
    Calls Tryz.prog 33 #[x.val, .int .i64 n] w fun e w' => e = .returned (.int .i64 ((n * x.den / x.num : Nat) : Int)) ∧ Below w.heap.size w w' := by
  have hf := fun W (h : Below w.heap.size w W) => valid_ok x hx W (hF.below h)
  obtain ⟨x1, x2, x3, x4, -, -, -⟩ := rt_bd hx
  unfold Rt.val at *
  clear hx hF
  generalize x.num = a at *
  generalize x.den = b at *
  have hp := prod_le hn x4
  obtain ⟨p, hpp⟩ : ∃ p, n * b = p := ⟨_, rfl⟩
  rw [hpp] at hp ⊢
  obtain ⟨q, hq⟩ : ∃ q, p / a = q := ⟨_, rfl⟩
  rw [hq]
  have hqp : q ≤ p := by rw [← hq]; exact Nat.div_le_self _ _
  have e1 := wprod hpp (by omega)
  have e2 := quo_nat hq
  have e3 := tquo_nat hq
  have e4 : IntKind.i64.wrap (q : Int) = (q : Int) := w64 (by omega) (by omega)
  have a0 : ¬ a = 0 := by omega
  have a1 : ((a : Int) == 0) = false := by rw [beq_eq_false_iff_ne]; omega
  have hn1 : (n : Int) ≤ 100000000 := by omega
  clear hpp hq
  go_enter Tryz.func33, Tryz.ntmps33
  go_wp2_with fail
  obtain ⟨W0, hW0, hb0, hsz, k0, k1⟩ := box2 w a b
  rw [hW0]; clear hW0
  refine Calls.mono (hf _ hb0) ?_; rintro e w1 ⟨rfl, b1⟩
  obtain ⟨c0, c1⟩ := keep2 k0 k1 b1 (by omega)
  go_wp2_with (go_at_call 61; refine Calls.mono (isFrame_any _ _) ?_; rintro e w1 ⟨rfl, rfl⟩)
  go_ret
  exact ⟨rfl, hb0.trans (b1.mono (by omega))⟩

set_option maxHeartbeats 1000000 in
theorem seconds_no (a b : Int) (hx : NoRate a b) (n : Int) (w : World) (hF : FmtAt w) :
    Calls Tryz.prog 33 #[.agg #[iv a, iv b], .int .i64 n] w fun e w' => e = .returned (.int .i64 (-1)) ∧ Below w.heap.size w w' := by
  have hf := fun W (h : Below w.heap.size w W) => valid_no a b hx W (hF.below h)
  go_enter Tryz.func33, Tryz.ntmps33
  go_wp2_with fail
  obtain ⟨W0, hW0, hb0, hsz, k0, k1⟩ := box2 w a b
  rw [hW0]; clear hW0
  refine Calls.mono (hf _ hb0) ?_; rintro e w1 ⟨rfl, b1⟩
  go_wp2_with fail
  go_ret
  exact ⟨rfl, hb0.trans (b1.mono (by omega))⟩

set_option maxHeartbeats 1000000 in
theorem seconds_out (x : Rt) (hx : x ∈ rtL) (n : Int) (hn : ¬ (0 ≤ n ∧ n ≤ 100000000)) (w : World) (hF : FmtAt w) :
    Calls Tryz.prog 33 #[x.val, .int .i64 n] w fun e w' => e = .returned (.int .i64 (-1)) ∧ Below w.heap.size w w' := by
  have hf := fun W (h : Below w.heap.size w W) => valid_ok x hx W (hF.below h)
  unfold Rt.val at *
  clear hx hF
  generalize x.num = a at *
  generalize x.den = b at *
  have hd : (decide (0 ≤ n) && decide (n ≤ 100000000)) = false := by rw [← Bool.decide_and, decide_eq_false_iff_not]; exact hn
  have hd2 : decide (0 ≤ n ∧ n ≤ 100000000) = false := by rw [decide_eq_false_iff_not]; exact hn
  go_enter Tryz.func33, Tryz.ntmps33
  go_wp2_with fail
  obtain ⟨W0, hW0, hb0, hsz, k0, k1⟩ := box2 w a b
  rw [hW0]; clear hW0
  refine Calls.mono (hf _ hb0) ?_; rintro e w1 ⟨rfl, b1⟩
  go_wp2_with (go_at_call 61; refine Calls.mono (isFrame_any _ _) ?_; rintro e w1 ⟨rfl, rfl⟩)
  go_ret
  exact ⟨rfl, hb0.trans (b1.mono (by omega))⟩

set_option maxHeartbeats 1000000 in
theorem frames_no (a b : Int) (hx : NoRate a b) (n : Int) (w : World) (hF : FmtAt w) :
    Calls Tryz.prog 27 #[.agg #[iv a, iv b], .int .i64 n] w fun e w' => e = .returned (.int .i64 (-1)) ∧ Below w.heap.size w w' := by
  have hf := fun W (h : Below w.heap.size w W) => valid_no a b hx W (hF.below h)
  go_enter Tryz.func27, Tryz.ntmps27
  go_wp2_with fail
  obtain ⟨W0, hW0, hb0, hsz, k0, k1⟩ := box2 w a b
  rw [hW0]; clear hW0
  refine Calls.mono (hf _ hb0) ?_; rintro e w1 ⟨rfl, b1⟩
  go_wp2_with fail
  go_ret
  exact ⟨rfl, hb0.trans (b1.mono (by omega))⟩

set_option maxHeartbeats 1000000 in
theorem frames_out (x : Rt) (hx : x ∈ rtL) (n : Int) (hn : ¬ (0 ≤ n ∧ n ≤ 10000000000)) (w : World) (hF : FmtAt w) :
    Calls Tryz.prog 27 #[x.val, .int .i64 n] w fun e w' => e = .returned (.int .i64 (-1)) ∧ Below w.heap.size w w' := by
  have hf := fun W (h : Below w.heap.size w W) => valid_ok x hx W (hF.below h)
  unfold Rt.val at *
  clear hx hF
  generalize x.num = a at *
  generalize x.den = b at *
  rcases (by omega : n < 0 ∨ 10000000000 < n) with hn | hn
  · go_enter Tryz.func27, Tryz.ntmps27
    go_wp2_with fail
    obtain ⟨W0, hW0, hb0, hsz, k0, k1⟩ := box2 w a b
    rw [hW0]; clear hW0
    refine Calls.mono (hf _ hb0) ?_; rintro e w1 ⟨rfl, b1⟩
    go_wp2_with fail
    go_ret
    exact ⟨rfl, hb0.trans (b1.mono (by omega))⟩
  · have hnn : ¬ n < 0 := by omega
    go_enter Tryz.func27, Tryz.ntmps27
    go_wp2_with fail
    obtain ⟨W0, hW0, hb0, hsz, k0, k1⟩ := box2 w a b
    rw [hW0]; clear hW0
    refine Calls.mono (hf _ hb0) ?_; rintro e w1 ⟨rfl, b1⟩
    go_wp2_with fail
    go_ret
    exact ⟨rfl, hb0.trans (b1.mono (by omega))⟩

set_option maxHeartbeats 1000000 in
theorem frames_ok (x : Rt) (hx : x ∈ rtL) (n : Nat) (hn : n ≤ 10000000000) (w : World) (hF : FmtAt w) :
    Calls Tryz.prog 27 #[x.val, .int .i64 n] w fun e w' => e = .returned (.int .i64 (((n * x.num + x.den - 1) / x.den : Nat) : Int)) ∧ Below w.heap.size w w' := by
  have hf := fun W (h : Below w.heap.size w W) => valid_ok x hx W (hF.below h)
  obtain ⟨x1, x2, x3, x4, -, -, -⟩ := rt_bd hx
  unfold Rt.val at *
  clear hx hF
  generalize x.num = a at *
  generalize x.den = b at *
  have hp := prod_le hn x2
  obtain ⟨p, hpp⟩ : ∃ p, n * a = p := ⟨_, rfl⟩
  rw [hpp] at hp ⊢
  have hcl := fun W => ceil_any (p : Int) (b : Int) W (by omega) (by omega) (by omega) (by omega)
  obtain ⟨q, hq⟩ : ∃ q, (p + b - 1) / b = q := ⟨_, rfl⟩
  rw [hq]
  rw [show (p : Int) + (b : Int) - 1 = ((p + b - 1 : Nat) : Int) by omega, ← Int.natCast_ediv, hq] at hcl
  have e1 := wprod hpp (by omega)
  have hn1 : (n : Int) ≤ 10000000000 := by omega
  have hn0 : ¬ (n : Int) < 0 := by omega
  clear hpp hq
  go_enter Tryz.func27, Tryz.ntmps27
  go_wp2_with fail
  obtain ⟨W0, hW0, hb0, hsz, k0, k1⟩ := box2 w a b
  rw [hW0]; clear hW0
  refine Calls.mono (hf _ hb0) ?_; rintro e w1 ⟨rfl, b1⟩
  obtain ⟨c0, c1⟩ := keep2 k0 k1 b1 (by omega)
  go_wp2_with (go_at_call 57; refine Calls.mono (hcl _) ?_; rintro e w1 ⟨rfl, rfl⟩)
  go_ret
  exact ⟨rfl, hb0.trans (b1.mono (by omega))⟩

/-- A frame's number at another rate. -/
def convertZ (x y : Rt) (n : Nat) : Nat := (n * x.den * y.num + x.num * y.den - 1) / (x.num * y.den)

end Go.Proofs.YtfannkpnmaeljaaGreatDoor.Tc

/- Rows of bytes of the call's own; two digits appended. -/
namespace Go.Proofs.YtfannkpnmaeljaaGreatDoor.Tc
open Go.RowKit

def u8s (l : List Nat) : List Value := l.map fun x : Nat => .int .u8 (x : Int)
theorem u8s_one (l : List Nat) : (u8s l).toArray.all (·.oneCell') = true := by simp [u8s, Value.oneCell']
theorem u8s_len (l : List Nat) : (u8s l).length = l.length := by simp [u8s]
theorem u8s_get {l : List Nat} {i : Nat} (h : i < l.length) : (u8s l)[i]? = some (.int .u8 ((l.getD i 0 : Nat) : Int)) := by
  simp [u8s, List.getElem?_eq_getElem h, List.getD_eq_getElem?_getD]
theorem getD_lt {l : List Nat} {n : Nat} (h : ∀ x ∈ l, x < n) (hn : 0 < n) (i : Nat) : l.getD i 0 < n := by
  rw [List.getD_eq_getElem?_getD]
  cases hi : l[i]? with
  | none => exact hn
  | some x => exact h x (List.mem_of_getElem? hi)
theorem infoU8 : (Tryz.prog.info? 5).map (fun i => (i.zero, i.size, i.bytes)) = some (some (.int .u8 0), 1, 1) := by kernel_rfl

theorem own_le {W : World} {base : Nat} {e : TypeId} {size : Nat} {v : Value} {k : Nat} {xs : List Value} (h : W.ownsRow base e size v k xs) : ∀ j, v.ownBlock = some j → base ≤ j := by
  intro j hj
  rcases h.2 with ⟨rfl, _⟩ | ⟨g, cap, cur, rfl, hb, _⟩
  · cases hj
  · cases hj; exact hb

theorem own_below {W W' : World} {base : Nat} {e : TypeId} {size : Nat} {v : Value} {n : Nat} {xs : List Value} (h : W.ownsRow base e size v n xs) (hb : Below W.heap.size W W') : W'.ownsRow base e size v n xs := by
  obtain ⟨h1, h2⟩ := h
  refine ⟨h1, ?_⟩
  rcases h2 with h2 | ⟨g, cap, cur, e1, e2, e3, e4⟩
  · exact .inl h2
  · exact .inr ⟨g, cap, cur, e1, e2, (hb.block g (Array.getElem?_eq_some_iff.1 e3).1).trans e3, e4⟩

theorem own_base {W : World} {base base' : Nat} {e : TypeId} {size : Nat} {v : Value} {n : Nat} {xs : List Value} (h : W.ownsRow base e size v n xs) (hb : base' ≤ base) : W.ownsRow base' e size v n xs := by
  obtain ⟨h1, h2⟩ := h
  refine ⟨h1, ?_⟩
  rcases h2 with h2 | ⟨g, cap, cur, e1, e2, e3⟩
  · exact .inl h2
  · exact .inr ⟨g, cap, cur, e1, Nat.le_trans hb e2, e3⟩

theorem made72 : madeCells (Value.int .u8 0).cells (72 * 1) = (u8s (List.replicate 72 0)).toArray := by kernel_rfl


def strN (l : List Nat) : ByteArray := strOfNums (l.map fun x : Nat => (x : Int))

theorem cells_new (w : World) (xs : List Value) (t : TypeId) : ∀ j u, xs[j]? = some u → (w.alloc (.cells xs.toArray t)).cell? ((⟨w.heap.size, 0, none⟩ : Addr).add j) = some u := by
  intro j u hj
  have hadd : (⟨w.heap.size, 0, none⟩ : Addr).add j = ⟨w.heap.size, j, none⟩ := by unfold Addr.add; split <;> simp_all
  rw [hadd]
  exact (Arr.new w t xs).cell hj

end Go.Proofs.YtfannkpnmaeljaaGreatDoor.Tc
