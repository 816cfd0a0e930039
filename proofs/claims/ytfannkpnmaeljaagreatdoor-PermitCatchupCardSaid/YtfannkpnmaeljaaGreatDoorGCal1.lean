import Derived.Test.YtfannkpnmaeljaaGreatDoorRows
import Derived.WalkKit
import Derived.WalkSpells
import Derived.WalkLawsBesides
import Derived.Lib.Hide
import Derived.Below
import Derived.Laws.Cells
import Derived.Laws.Rows
import Derived.Laws.Tables
import Derived.RangeFuncNested
import Derived.RangeFuncBound
import Derived.RangeFuncCalls
import Derived.RangeFuncLeaves
import Derived.RangeFuncBox
import Derived.RangeFuncWrites
import Derived.Shelf.Abstract
import Derived.Shelf.RegionOpen
import Derived.OwnWalkIn
import Derived.TacticsInMore
import Derived.LoopNIn
import Derived.LoopIn
import Derived.Lib.BufferWrite
import Derived.Laws.MakeOwn
import Derived.Laws.AppendOwn
import Derived.Laws.OwnMore
import Derived.Maps.AppendAt
import Derived.Deep.QuietTactic
import Derived.BigQuiet
import Derived.Outline
set_option linter.unusedVariables false
set_option linter.unusedSimpArgs false
/- Zones as plain numbers: the stretches of constant offset. -/
namespace Go.Proofs.YtfannkpnmaeljaaGreatDoor.Cal

def okOff (n : Int) : Bool := decide (-50400 ≤ n) && decide (n ≤ 50400)
def okSec (n : Int) : Bool := decide (0 ≤ n) && decide (n ≤ 10000000000)
def okSod (n : Int) : Bool := decide (0 ≤ n) && decide (n < 86400)
def ascZ : Int → List (Int × Int) → Bool
  | _, [] => true
  | l, (a, o) :: r => decide (l < a) && okSec a && okOff o && ascZ a r
def validZ (off : Int) (sh : List (Int × Int)) : Bool := okOff off && decide (sh.length ≤ 40) && ascZ (-1) sh

theorem ascZ_drop {l : Int} {sh : List (Int × Int)} {k : Nat} (h : k < sh.length) :
    ascZ l (sh.drop k) = (decide (l < (sh.getD k (0, 0)).1) && okSec (sh.getD k (0, 0)).1 && okOff (sh.getD k (0, 0)).2 && ascZ (sh.getD k (0, 0)).1 (sh.drop (k + 1))) := by
  rw [List.drop_eq_getElem_cons h, List.getD_eq_getElem?_getD, List.getElem?_eq_getElem h]
  rfl

/-- From, to (exclusive), offset. -/
abbrev Str := Int × Int × Int
def strs : Int → Int → List (Int × Int) → List Str
  | f, o, [] => [(f, 10000000001, o)]
  | f, o, (a, p) :: r => (f, a, o) :: strs a p r

theorem strs_drop {f o : Int} {sh : List (Int × Int)} {k : Nat} (h : k < sh.length) :
    strs f o (sh.drop k) = (f, (sh.getD k (0, 0)).1, o) :: strs (sh.getD k (0, 0)).1 (sh.getD k (0, 0)).2 (sh.drop (k + 1)) := by
  rw [List.drop_eq_getElem_cons h, List.getD_eq_getElem?_getD, List.getElem?_eq_getElem h]
  rfl
theorem strs_end {f o : Int} {sh : List (Int × Int)} : strs f o (sh.drop sh.length) = [(f, 10000000001, o)] := by
  rw [List.drop_length]; rfl

theorem rest_cons {T pre rest : List Str} {x : Str} (h : T = pre ++ rest) (hp : pre ++ [x] <+: T) : ∃ r, rest = x :: r := by
  obtain ⟨t, ht⟩ := hp
  rw [h, List.append_assoc] at ht
  exact ⟨t, (List.append_cancel_left ht).symm⟩
theorem rest_nil {T rest : List Str} (h : T = T ++ rest) : rest = [] := by
  have := congrArg List.length h
  simp at this
  exact this

/-- The offset at a second: that of the last stretch that has begun. -/
def offRun (s : Int) : Int → List Str → Int
  | o, [] => o
  | o, x :: r => if s < x.1 then o else offRun s x.2.2 r
def offZ (off : Int) (sh : List (Int × Int)) (s : Int) : Int := offRun s off (strs 0 off sh)
/-- How many seconds of the day lie in the stretches. -/
def lenRun (d : Int) : Int → List Str → Int
  | t, [] => t
  | t, x :: r => lenRun d (t + max 0 (min (d * 86400 - x.2.2 + 86400) x.2.1 - max (d * 86400 - x.2.2) x.1)) r
def lenZ (off : Int) (sh : List (Int × Int)) (d : Int) : Int := lenRun d 0 (strs 0 off sh)
def atRun (u : Int) : List Int → List Str → List Int
  | t, [] => t
  | t, x :: r => atRun u (if x.1 ≤ u - x.2.2 ∧ u - x.2.2 < x.2.1 then t ++ [u - x.2.2] else t) r
def atZ (off : Int) (sh : List (Int × Int)) (d s : Int) : List Int := atRun (d * 86400 + s) [] (strs 0 off sh)

/-- Every stretch has an offset within the bounds, and bounds of its own. -/
def StrOk (x : Str) : Prop := -50400 ≤ x.2.2 ∧ x.2.2 ≤ 50400 ∧ 0 ≤ x.1 ∧ x.1 ≤ x.2.1 ∧ x.2.1 ≤ 10000000001
theorem okOff_iff {n : Int} : okOff n = true ↔ -50400 ≤ n ∧ n ≤ 50400 := by simp [okOff]
theorem okSec_iff {n : Int} : okSec n = true ↔ 0 ≤ n ∧ n ≤ 10000000000 := by simp [okSec]
theorem okSod_iff {n : Int} : okSod n = true ↔ 0 ≤ n ∧ n < 86400 := by simp [okSod]
theorem strs_ok : ∀ {sh : List (Int × Int)} {f o l : Int}, okOff o = true → ascZ l sh = true → 0 ≤ f → f ≤ l + 1 → f ≤ 10000000001 → ∀ x ∈ strs f o sh, StrOk x
  | [], f, o, l, ho, _, h0, h1, h2, x, hx => by
    rw [okOff_iff] at ho
    simp [strs] at hx; subst hx; exact ⟨ho.1, ho.2, h0, h2, Int.le_refl _⟩
  | (a, p) :: r, f, o, l, ho, ha, h0, h1, h2, x, hx => by
    simp only [ascZ, Bool.and_eq_true, decide_eq_true_eq] at ha
    obtain ⟨⟨⟨hl, hs⟩, hp⟩, hr⟩ := ha
    have hs' := okSec_iff.1 hs
    rcases List.mem_cons.1 hx with rfl | hx
    · rw [okOff_iff] at ho
      exact ⟨ho.1, ho.2, h0, by simp; omega, by simp; omega⟩
    · exact strs_ok hp hr hs'.1 (by omega) (by omega) x hx
theorem valid_iff {off : Int} {sh : List (Int × Int)} (h : validZ off sh = true) : (-50400 ≤ off ∧ off ≤ 50400) ∧ sh.length ≤ 40 ∧ ∀ x ∈ strs 0 off sh, StrOk x := by
  simp only [validZ, Bool.and_eq_true, decide_eq_true_eq] at h
  exact ⟨okOff_iff.1 h.1.1, h.1.2, strs_ok h.1.1 h.2 (by omega) (by omega) (by omega)⟩

theorem offRun_ok {s : Int} : ∀ {T : List Str} {o : Int}, (-50400 ≤ o ∧ o ≤ 50400) → (∀ x ∈ T, StrOk x) → -50400 ≤ offRun s o T ∧ offRun s o T ≤ 50400
  | [], o, h, _ => h
  | x :: r, o, h, hT => by
    unfold offRun
    split
    · exact h
    · have := hT x (by simp)
      exact offRun_ok ⟨this.1, this.2.1⟩ (fun y hy => hT y (by simp [hy]))
theorem offZ_ok {off s : Int} {sh : List (Int × Int)} (h : validZ off sh = true) : -50400 ≤ offZ off sh s ∧ offZ off sh s ≤ 50400 := by
  obtain ⟨h1, h2, h3⟩ := valid_iff h
  exact offRun_ok h1 h3
theorem strs_len : ∀ {sh : List (Int × Int)} {f o : Int}, (strs f o sh).length = sh.length + 1
  | [], _, _ => rfl
  | (a, p) :: r, f, o => by simp [strs, strs_len (sh := r)]

def localZ (off : Int) (sh : List (Int × Int)) (s : Int) : Int × Int :=
  if validZ off sh && okSec s then ((s + offZ off sh s) / 86400, (s + offZ off sh s) % 86400) else (0, 0)
def okDay (d : Int) : Bool := decide (-1 ≤ d) && decide (d ≤ 115741)
def lengthZ (off : Int) (sh : List (Int × Int)) (d : Int) : Int := if validZ off sh && okDay d then lenZ off sh d else 0
def atT (off : Int) (sh : List (Int × Int)) (d s : Int) : List Int := if validZ off sh && okDay d && okSod s then atZ off sh d s else []

/-- A span is added behind the others: it joins the last one where it touches it. -/
def addZ (l : List (Int × Int)) (b e : Int) : List (Int × Int) :=
  if e ≤ b then l else match l.getLast? with
    | some x => if x.2 = b then l.dropLast ++ [(x.1, e)] else l ++ [(b, e)]
    | none => [(b, e)]
theorem addZ_no {l : List (Int × Int)} {b e : Int} (h : e ≤ b) : addZ l b e = l := by unfold addZ; rw [if_pos h]
theorem addZ_nil {b e : Int} (h : ¬ e ≤ b) : addZ [] b e = [(b, e)] := by unfold addZ; rw [if_neg h]; rfl
theorem addZ_join {l : List (Int × Int)} {f b e : Int} (h : ¬ e ≤ b) : addZ (l ++ [(f, b)]) b e = l ++ [(f, e)] := by
  unfold addZ; rw [if_neg h]; simp
theorem addZ_far {l : List (Int × Int)} {f t b e : Int} (h : ¬ e ≤ b) (ht : t ≠ b) : addZ (l ++ [(f, t)]) b e = l ++ [(f, t)] ++ [(b, e)] := by
  unfold addZ; rw [if_neg h]; simp [ht]
theorem addZ_len {l : List (Int × Int)} {b e : Int} : (addZ l b e).length ≤ l.length + 1 := by
  unfold addZ
  split
  · omega
  · split
    · split <;> simp <;> omega
    · simp

/-- The windows of one stretch, from the one that opens at op on. -/
def winRun (bg en wl : Int) (l : List (Int × Int)) (op : Int) : List (Int × Int) :=
  if op < en then winRun bg en wl (addZ l (max op bg) (min (op + wl) en)) (op + 86400) else l
termination_by (en - op).toNat
decreasing_by omega
theorem winRun_go {bg en wl : Int} {l : List (Int × Int)} {op : Int} (h : op < en) : winRun bg en wl l op = winRun bg en wl (addZ l (max op bg) (min (op + wl) en)) (op + 86400) := by
  rw [winRun, if_pos h]
theorem winRun_end {bg en wl : Int} {l : List (Int × Int)} {op : Int} (h : ¬ op < en) : winRun bg en wl l op = l := by
  rw [winRun, if_neg h]
def spanRun (F To a wl : Int) : List (Int × Int) → List Str → List (Int × Int)
  | l, [] => l
  | l, x :: r => if x.2.1 ≤ F then spanRun F To a wl l r else if To ≤ x.1 then l else
      spanRun F To a wl (winRun (max x.1 F) (min x.2.1 To) wl l (max x.1 F - (max x.1 F + x.2.2 - a) % 86400)) r
end Go.Proofs.YtfannkpnmaeljaaGreatDoor.Cal

/- Blocks, boxes and the small functions of calendar. -/
namespace Go.Proofs.YtfannkpnmaeljaaGreatDoor.Cal
open Go.RowKit

abbrev iv (n : Int) : Value := .int .i64 n
theorem w64 {n : Int} (h1 : -9223372036854775808 ≤ n) (h2 : n ≤ 9223372036854775807) : IntKind.i64.wrap n = n := by
  rw [IntKind.wrap_i64]; omega
theorem ret_int {k : IntKind} {a b : Int} (h : a = b) : Ending.returned (.int k a) = .returned (.int k b) := by rw [h]
theorem bthen {a b c : World} (h : Below a.heap.size a b) (k : Below b.heap.size b c) : Below a.heap.size a c := h.trans (k.mono h.size)
theorem bcell {W w1 : World} (hb : Below W.heap.size W w1) : (∀ b o, b < W.heap.size → w1.cell? ⟨b, o, none⟩ = W.cell? ⟨b, o, none⟩) ∧ (∀ b o, b < W.heap.size → w1.frozen? ⟨b, o, none⟩ = W.frozen? ⟨b, o, none⟩) :=
  ⟨fun b o h => hb.cell (p := ⟨b, o, none⟩) h, fun b o h => hb.frozen (p := ⟨b, o, none⟩) h⟩

/-! ### Arrays in blocks of their own -/
def Arr (W : World) (B : Nat) (t : TypeId) (vs : List Value) : Prop := W.heap[B]? = some (.cells vs.toArray t (0, 0))

theorem Arr.cell {W : World} {B : Nat} {t : TypeId} {vs : List Value} (h : Arr W B t vs) {i : Nat} {v : Value} (hv : vs[i]? = some v) : W.cell? ⟨B, i, none⟩ = some v := by
  rw [cell_of_row _ _ i _ t (0, 0) h]
  simpa using hv
theorem Arr.below {W W' : World} {B n : Nat} {t : TypeId} {vs : List Value} (h : Arr W B t vs) (hb : Below n W W') (hB : B < n) : Arr W' B t vs := (hb.block B hB).trans h
theorem Arr.lt {W : World} {B : Nat} {t : TypeId} {vs : List Value} (h : Arr W B t vs) : B < W.heap.size := (Array.getElem?_eq_some_iff.1 h).1
theorem Arr.alloc {W : World} {B : Nat} {t : TypeId} {vs : List Value} (h : Arr W B t vs) (o : Obj) : Arr (W.alloc o) B t vs := (Below.heap_alloc _ _ _ h.lt).trans h
theorem Arr.new (W : World) (t : TypeId) (vs : List Value) : Arr (W.alloc (.cells vs.toArray t)) W.heap.size t vs := heap_alloc_new W _
theorem Arr.new' {W : World} {n : Nat} (t : TypeId) (vs : List Value) (hn : n = W.heap.size) : Arr (W.alloc (.cells vs.toArray t)) n t vs := hn ▸ heap_alloc_new W _
theorem Arr.frozen {W : World} {B : Nat} {t : TypeId} {vs : List Value} (h : Arr W B t vs) (i : Nat) : W.frozen? ⟨B, i, none⟩ = false := by
  unfold World.frozen?
  rw [h]
  simp
theorem Arr.drew {W : World} {B : Nat} {t : TypeId} {vs : List Value} (h : Arr W B t vs) : Arr W.drew B t vs := h

theorem Arr.set {W : World} {B : Nat} {t : TypeId} {vs : List Value} (h : Arr W B t vs) (i : Nat) (v : Value) : Arr (W.setCell ⟨B, i, none⟩ v) B t (vs.set i v) := by
  have := heap_setCell_same W B i _ t v h
  unfold Arr
  rw [this]; simp
theorem Arr.set_other {W : World} {B C : Nat} {t : TypeId} {vs : List Value} (h : Arr W B t vs) (i : Nat) (v : Value) (hne : C ≠ B) : Arr (W.setCell ⟨C, i, none⟩ v) B t vs := by
  unfold Arr World.setCell
  simp [Array.getElem?_modify, hne]
  exact h

theorem Arr.row {W : World} {B : Nat} {t : TypeId} {vs : List Value} (h : Arr W B t vs) (us : List Value) : Arr (W.setRow B us.toArray) B t us := setRow_heap _ _ _ _ _ _ h
theorem Arr.row_other {W : World} {B C : Nat} {t : TypeId} {vs : List Value} (h : Arr W B t vs) (us : Array Value) (hne : C ≠ B) : Arr (W.setRow C us) B t vs := (setRow_other _ _ _ _ (Ne.symm hne)).trans h
theorem below_setRow {n C : Nat} {w W : World} (h : Below n w W) (hC : n ≤ C) (us : Array Value) : Below n w (W.setRow C us) :=
  h.trans ⟨rfl, rfl, rfl, by simp, fun k hk => setRow_other _ _ _ _ (by omega)⟩

theorem Arr.load {P : Program} {W : World} {B : Nat} {t : TypeId} {vs : List Value} (h : Arr W B t vs) {n : Nat} (hn : vs.length = n) :
    (loadCellsFrom ⟨B, 0, none⟩ 0 n #[]).run P W = .ok vs.toArray W := by
  subst hn
  have := run_loadCells_list (P := P) W ⟨B, 0, none⟩ vs (fun j v hv => by
    have hadd : (⟨B, 0, none⟩ : Addr).add j = ⟨B, j, none⟩ := by unfold Addr.add; split <;> simp_all
    rw [hadd]; exact h.cell hv)
  simpa [loadCells] using this

theorem Arr.store {P : Program} {W : World} {B : Nat} {t : TypeId} {vs : List Value} (h : Arr W B t vs) (out : Array Value) (hi : (P.info? t).map (·.size) = some out.size) (hs : vs.toArray.size = out.size) (h1 : out.all (·.oneCell') = true) :
    (storeCells ⟨B, 0, none⟩ out.toList 0).run P W = .ok () (W.setRow B out) := by
  have := run_storeVar_row (P := P) W B t t vs.toArray out h hi hs h1
  cases hq : P.info? t with
  | none => simp [hq] at hi
  | some i =>
    have hs : out.size = i.size := by simp [hq] at hi; omega
    simpa [storeVar, sizeOf, typeInfo, hq, Value.cells, hs] using this

/-- A store of a whole array: the world behind it by what is known of it. -/
theorem wpList_store_abs {P : Program} {ops : Array Oper} {rest : List Oper} {o : Oper} {a : Act} {w : World} {Q : Exit → Act → World → Prop} (hgd : o.guard = none) (ty : TypeId) (x y : Operand) (ho : o.op = .store ty x y)
    (g : Nat) (cells : Array Value) (hx : a.eval x = .pointer (some ⟨g, 0, none⟩)) (hy : a.eval y = .agg cells)
    (t : TypeId) (old : Array Value) (hg : w.heap[g]? = some (.cells old t (0, 0))) (hi : (P.info? ty).map (·.size) = some cells.size)
    (hold : old.size = cells.size) (h1 : cells.all (·.oneCell') = true)
    (h : ∀ W, W.heap[g]? = some (.cells cells t (0, 0)) → Below g w W → (∀ k, k ≠ g → W.heap[k]? = w.heap[k]?) → wpList P ops Q rest (a.put o.dst undef) W) : wpList P ops Q (o :: rest) a w :=
  wpList_store_row hgd ty x y ho g cells hx hy t old hg hi hold h1 (h _ (setRow_heap _ _ _ _ _ _ hg) (below_setRow (Below.refl _ _) (Nat.le_refl _) _) (fun k hk => setRow_other _ _ _ _ hk))


theorem isOffset_any (n : Int) (w : World) :
    Calls Tryz.prog 82 #[.int .i64 n] w fun e w' => e = .returned (.bool (okOff n)) ∧ w = w' := by
  go_enter Tryz.func82, Tryz.ntmps82
  go_wp2
  all_goals (go_ret; exact ⟨by congr 2; simp [okOff, okSec, okSod]; first | omega | (simp_all <;> omega), rfl⟩)

theorem isSecond_any (n : Int) (w : World) :
    Calls Tryz.prog 83 #[.int .i64 n] w fun e w' => e = .returned (.bool (okSec n)) ∧ w = w' := by
  go_enter Tryz.func83, Tryz.ntmps83
  go_wp2
  all_goals (go_ret; exact ⟨by congr 2; simp [okOff, okSec, okSod]; first | omega | (simp_all <;> omega), rfl⟩)

theorem isSod_any (n : Int) (w : World) :
    Calls Tryz.prog 127 #[.int .i64 n] w fun e w' => e = .returned (.bool (okSod n)) ∧ w = w' := by
  go_enter Tryz.func127, Tryz.ntmps127
  go_wp2
  all_goals (go_ret; exact ⟨by congr 2; simp [okOff, okSec, okSod]; first | omega | (simp_all <;> omega), rfl⟩)

theorem rest_any (n : Int) (w : World) :
    Calls Tryz.prog 128 #[.int .i64 n] w fun e w' => e = .returned (.int .i64 (n % 86400)) ∧ w = w' := by
  obtain ⟨t, ht⟩ : ∃ t, n.tmod 86400 = t := ⟨_, rfl⟩
  have h1 : t + 86400 = t + 86400 := rfl
  have hb : -86400 < t ∧ t < 86400 ∧ (t + 86400) % 86400 = n % 86400 := by
    rw [← ht, Int.tmod_eq_emod]; split <;> simp <;> omega
  have e1 : IntKind.i64.wrap t = t := w64 (by omega) (by omega)
  have h0 : 0 ≤ t + 86400 := by omega
  have hu : t + 86400 ≤ 172800 := by omega
  have hr : (t + 86400) % 86400 = n % 86400 := hb.2.2
  have hl : -86400 < t := by omega
  have hg : t < 86400 := by omega
  clear hb h1
  go_enter Tryz.func128, Tryz.ntmps128
  go_wp2
  go_ret
  exact ⟨ret_int hr, rfl⟩
end Go.Proofs.YtfannkpnmaeljaaGreatDoor.Cal

/- A range over an iterator that keeps memory of its own: the body owns a set of blocks, which may grow; it may be left by a jump. -/
namespace Go.Proofs.YtfannkpnmaeljaaGreatDoor.Cal
open Go.RowKit

/-- B is A but for the blocks of M and new ones. -/
structure Turns (M : Nat → Prop) (A B : World) : Prop where
  os : B.os = A.os
  tape : B.tape = A.tape
  output : B.output = A.output
  size : A.heap.size ≤ B.heap.size
  block : ∀ k, k < A.heap.size → ¬ M k → B.heap[k]? = A.heap[k]?

theorem Turns.refl (M : Nat → Prop) (A : World) : Turns M A A := ⟨rfl, rfl, rfl, Nat.le_refl _, fun _ _ _ => rfl⟩
theorem Turns.trans {M : Nat → Prop} {A B C : World} (h : Turns M A B) (k : Turns M B C) : Turns M A C :=
  ⟨k.os.trans h.os, k.tape.trans h.tape, k.output.trans h.output, Nat.le_trans h.size k.size, fun i hi hn => (k.block i (Nat.lt_of_lt_of_le hi h.size) hn).trans (h.block i hi hn)⟩
theorem Turns.mono {M N : Nat → Prop} {A B : World} (h : Turns M A B) (hmn : ∀ k, M k → N k) : Turns N A B :=
  ⟨h.os, h.tape, h.output, h.size, fun k hk hn => h.block k hk (fun hm => hn (hmn k hm))⟩
theorem Turns.of_below {M : Nat → Prop} {A B : World} (h : Below A.heap.size A B) : Turns M A B :=
  ⟨h.os, h.tape, h.output, h.size, fun k hk _ => h.block k hk⟩
theorem Turns.below {M : Nat → Prop} {A B : World} {n : Nat} (h : Turns M A B) (hn : n ≤ A.heap.size) (hm : ∀ k, M k → n ≤ k) : Below n A B :=
  ⟨h.os, h.tape, h.output, h.size, fun k hk => h.block k (by omega) (fun hM => by have := hm k hM; omega)⟩
theorem Turns.arr {M : Nat → Prop} {A B : World} (h : Turns M A B) {C : Nat} {t : TypeId} {vs : List Value} (ha : Arr A C t vs) (hM : ¬ M C) : Arr B C t vs := (h.block C ha.lt hM).trans ha
theorem Turns.of_setCell {M : Nat → Prop} {A B : World} (h : Turns M A B) {p : Addr} (hp : M p.block ∨ A.heap.size ≤ p.block) (u : Value) : Turns M A (B.setCell p u) := by
  refine ⟨h.os, h.tape, h.output, by simpa using h.size, fun k hk hn => ?_⟩
  rw [Below.heap_setCell _ _ _ _ (fun e => by subst e; rcases hp with hp | hp; exact hn hp; omega)]
  exact h.block k hk hn
theorem Turns.of_alloc {M : Nat → Prop} {A B : World} (h : Turns M A B) (o : Obj) : Turns M A (B.alloc o) := by
  refine ⟨h.os, h.tape, h.output, by have := h.size; simp; omega, fun k hk hn => ?_⟩
  rw [Below.heap_alloc _ _ _ (by have := h.size; omega)]
  exact h.block k hk hn
theorem Turns.of_put {M : Nat → Prop} {A B : World} (h : Turns M A B) {l : Nat} (hl : M l) (o : Obj) : Turns M A (B.putObj l o) := by
  refine ⟨h.os, h.tape, h.output, by simpa using h.size, fun k hk hn => ?_⟩
  exact (World.putObj_heap_other (by intro e; subst e; exact hn hl)).trans (h.block k hk hn)
theorem Turns.row {M : Nat → Prop} {A B : World} {n₀ : Nat} {e : TypeId} {size : Nat} {v : Value} {n : Nat} {xs : List Value} (h : Turns M A B) (ho : A.ownsRow n₀ e size v n xs) (hM : ∀ j, v.ownBlock = some j → ¬ M j) : B.ownsRow n₀ e size v n xs := by
  obtain ⟨h1, h2⟩ := ho
  refine ⟨h1, ?_⟩
  rcases h2 with h2 | ⟨g, cap, cur, e1, e2, e3, e4⟩
  · exact .inl h2
  · exact .inr ⟨g, cap, cur, e1, e2, (h.block g (Array.getElem?_eq_some_iff.1 e3).1 (hM g (by rw [e1]; rfl))).trans e3, e4⟩

/-- The body's blocks after a round: those before and new ones; it has turned no others. -/
structure Grown (M M' : Nat → Prop) (W W' : World) : Prop where
  keep : ∀ k, M k → M' k
  new : ∀ k, M' k → M k ∨ W.heap.size ≤ k
  lt : ∀ k, M' k → k < W'.heap.size
  turns : Turns M' W W'

def roundOut {α : Type} (I : List α → (Nat → Prop) → World → Prop) (Ix : Code → List α → (Nat → Prop) → World → Prop) (xs : List α) (M : Nat → Prop) (W : World) : Exit → Act → World → Prop
  | .normal, _, W' => ∃ M', Grown M M' W W' ∧ I xs M' W'
  | .ret, _, W' => ∃ M', Grown M M' W W' ∧ Ix .ret xs M' W'
  | .exit id, _, W' => ∃ M', Grown M M' W W' ∧ Ix (.exit id) xs M' W'
  | .goto t, _, W' => ∃ M', Grown M M' W W' ∧ Ix (.goto t) xs M' W'
  | .panic _, _, _ => False
  | .outgrown, _, _ => False

/-- An iterator's contract: it hands the elements of T to the body, in their order, until the body leaves. It reads the blocks of Dep. -/
def Hands {α : Type} (F : Fence) (n : Nat) (P : Program) (g : Nat) (lb : Array Value) (encs : α → Array Value) (Dep : Nat → Prop) (T : List α) (w : World) : Prop :=
  ∀ (l : Nat) (J Jx : List α → (Nat → Prop) → World → Prop) (M : Nat → Prop) (W : World), Below w.heap.size w W → (∀ k, M k → k < W.heap.size ∧ ¬ Dep k) →
    (∀ xs M A B, J xs M A → Turns (fun k => W.heap.size ≤ k ∧ ¬ M k) A B → J xs M B) →
    (∀ xs M A B, Jx xs M A → Turns (fun k => W.heap.size ≤ k ∧ ¬ M k) A B → Jx xs M B) →
    (∀ pre x M W1, J pre M W1 → pre ++ [x] <+: T → YieldAt F (n - 1) P l (encs x) W1 fun e W' => ∃ M',
      ((e = .returned (.bool true) ∧ Grown M M' W1 W' ∧ J (pre ++ [x]) M' W') ∨ (e = .returned (.bool false) ∧ Jx (pre ++ [x]) M' W'))) →
    J [] M W →
    CallsIn F n P g (#[.func (.yield l) #[] #[]] ++ lb) W fun e W' => (∃ v, e = .returned v) ∧ ((∃ M', J T M' W') ∨ ∃ pre M', pre <+: T ∧ Jx pre M' W')

variable {F : Fence} {n : Nat} {P : Program}

theorem wpIn_rangeFunc_hands {α : Type} {g : Operand} {ps : Array Tmp} {assign body : Code} {Q : Exit → Act → World → Prop} {a : Act} {w : World}
    (hro : F.round = none) (h1 : 1 ≤ n) {gf : Nat} {lb : Array Value} (hg : a.eval g = .func (.func gf) #[] lb) (hFg : F.fn gf) (eg : ∀ args w, (callFunc gf args).run P w = .ok (.enter gf args) w)
    {encs : α → Array Value} {Dep : Nat → Prop} {T : List α} {w0 : World} (hseq : Hands F (n - 1) P gf lb encs Dep T w0)
    (hb0 : Below w0.heap.size w0 w) (hps : ∀ x, (encs x).size = ps.size)
    (I : List α → (Nat → Prop) → World → Prop) (Ix : Code → List α → (Nat → Prop) → World → Prop)
    (hI : ∀ xs M A B, I xs M A → Turns (fun k => w.heap.size ≤ k ∧ ¬ M k) A B → I xs M B)
    (hIx : ∀ c xs M A B, Ix c xs M A → Turns (fun k => w.heap.size ≤ k ∧ ¬ M k) A B → Ix c xs M B)
    (M0 : Nat → Prop) (hM0 : ∀ k, M0 k → k < w.heap.size ∧ ¬ Dep k) (h0 : I [] M0 w) (tb : TypeId) (vx : α → List Value) (a₁ : Nat → α → Act)
    (hassign : ∀ (l : Nat) (x : α) (W : World) (K : Act → World → Prop), (∀ g W', W.heap.size ≤ g → Below W.heap.size W W' → Arr W' g tb (vx x) → K (a₁ g x) W') →
      assign.wpIn (F.inRound l) (n - 1 - 1) P (Exit.then K (fun _ _ _ => False)) { tmps := (ps.zip (encs x)).foldl (fun t (p, v) => t.setIfInBounds p v) a.tmps, defers := [] } W)
    (hbody : ∀ (l : Nat) (pre : List α) (x : α) (g : Nat) (M : Nat → Prop) (W : World), I pre M W → pre ++ [x] <+: T → Arr W g tb (vx x) → ¬ M g → (∀ k, M k → k < W.heap.size) → w.heap.size ≤ W.heap.size →
      body.wpIn (F.inRound l) (n - 1 - 1) P (roundOut I Ix (pre ++ [x]) M W) (a₁ g x) W)
    (hdone : ∀ (D : Nat) (M : Nat → Prop) (W : World), w.heap.size ≤ D → ¬ M D → I T M W → W.heap[D]? = some (.deferred (some [])) → Q .normal { a with defers := { target := .collected D, args := #[] } :: a.defers } W)
    (hstop : ∀ (D : Nat) (c : Code) (pre : List α) (M : Nat → Prop) (W : World), w.heap.size ≤ D → ¬ M D → pre <+: T → Ix c pre M W → W.heap[D]? = some (.deferred (some [])) → c.wpIn F n P Q { a with defers := { target := .collected D, args := #[] } :: a.defers } W) :
    (Code.rangeFunc g ps assign body).wpIn F n P Q a w := by
  refine wpIn_rangeFunc fun fn hfn => ?_
  rw [hro]
  have hrec : ∃ rec : LoopState → Option Code → Loop, ∀ st pe, rec st pe = { state := st, pending := pe, fn, tmps := a.tmps, params := ps, assign, body, defers := w.heap.size } := ⟨_, fun _ _ => rfl⟩
  obtain ⟨rec, hrec⟩ := hrec
  have hrun := run_enterLoop_outer (P := P) (w := w) fn a.tmps ps assign body
  rw [← hrec] at hrun
  have hL : ((w.alloc (.deferred (some []))).alloc (.loop (rec .ready none))).heap[w.heap.size + 1]? = some (.loop (rec .ready none)) := by
    have := World.alloc_heap_new (w.alloc (.deferred (some []))) (.loop (rec .ready none)); rwa [World.size_alloc] at this
  have hK : ((w.alloc (.deferred (some []))).alloc (.loop (rec .ready none))).heap[w.heap.size]? = some (.deferred (some [])) :=
    (Below.heap_alloc _ _ _ (by simp)).trans (World.alloc_heap_new w _)
  have hB : Below w.heap.size w ((w.alloc (.deferred (some []))).alloc (.loop (rec .ready none))) := ((Below.refl _ w).alloc (Nat.le_refl _) _).alloc (by simp) _
  have hz : ((w.alloc (.deferred (some []))).alloc (.loop (rec .ready none))).heap.size = w.heap.size + 2 := by simp
  generalize (w.alloc (.deferred (some []))).alloc (.loop (rec .ready none)) = W1 at *
  obtain ⟨l, hl⟩ : ∃ l, w.heap.size + 1 = l := ⟨_, rfl⟩
  obtain ⟨D, hD⟩ : ∃ D, w.heap.size = D := ⟨_, rfl⟩
  rw [hl] at hL hrun
  rw [hD] at hK hrun hrec
  have hlD : l ≠ D := by omega
  have hlt : w.heap.size ≤ l := by omega
  have hDt : w.heap.size ≤ D := by omega
  have hM1 : ∀ k, M0 k → k < W1.heap.size ∧ ¬ Dep k := fun k hk => ⟨by have := (hM0 k hk).1; omega, (hM0 k hk).2⟩
  have hst : ∀ (M : Nat → Prop) (A B : World), Turns (fun k => W1.heap.size ≤ k ∧ ¬ M k) A B → Turns (fun k => w.heap.size ≤ k ∧ ¬ M k) A B := fun M A B h => h.mono fun k hk => ⟨by omega, hk.2⟩
  refine ⟨l, [{ target := .collected D, args := #[] }], W1, { target := .fn (.func gf) lb, args := #[.func (.yield l) #[] #[]] }, W1, gf,
    #[.func (.yield l) #[] #[]] ++ lb, W1, hrun, ?_, ?_, ?_, fun _ => h1, ?_⟩
  · simp only [resolve, hg]; simp [go_sem]
  · intro f' hf'; simp [Target.leads] at hf'; subst hf'; exact hFg
  · simp [invoke, go_sem, eg]
  · refine (hseq l
      (fun pre M W => I pre M W ∧ W.heap[l]? = some (.loop (rec .ready none)) ∧ W.heap[D]? = some (.deferred (some [])) ∧ ¬ M l ∧ ¬ M D ∧ ∀ k, M k → k < W.heap.size)
      (fun pre M W => ∃ c, Ix c pre M W ∧ W.heap[l]? = some (.loop (rec .done (some c))) ∧ W.heap[D]? = some (.deferred (some [])) ∧ ¬ M l ∧ ¬ M D)
      M0 W1 (hb0.trans (hB.mono hb0.size)) hM1
      (fun xs M A B h ht => ⟨hI _ _ _ _ h.1 (hst _ _ _ ht), (ht.block l (Array.getElem?_eq_some_iff.1 h.2.1).1 (fun hk => by omega)).trans h.2.1, (ht.block D (Array.getElem?_eq_some_iff.1 h.2.2.1).1 (fun hk => by omega)).trans h.2.2.1, h.2.2.2.1, h.2.2.2.2.1, fun k hk => Nat.lt_of_lt_of_le (h.2.2.2.2.2 k hk) ht.size⟩)
      (fun xs M A B h ht => by
        obtain ⟨c, h1, h2, h3, h4, h5⟩ := h
        exact ⟨c, hIx _ _ _ _ _ h1 (hst _ _ _ ht), (ht.block l (Array.getElem?_eq_some_iff.1 h2).1 (fun hk => by omega)).trans h2, (ht.block D (Array.getElem?_eq_some_iff.1 h3).1 (fun hk => by omega)).trans h3, h4, h5⟩)
      ?_ ⟨hI _ _ _ _ h0 (Turns.of_below hB), hL, hK, fun hm => by have := (hM0 _ hm).1; omega, fun hm => by have := (hM0 _ hm).1; omega, fun k hk => (hM1 k hk).1⟩).mono ?_
    · rintro pre x M W ⟨hi, hwl, hwk, hml, hmd, hmlt⟩ hpre
      have hlt' : l < W.heap.size := (Array.getElem?_eq_some_iff.1 hwl).1
      have hy := run_yield (P := P) (args := encs x) hwl (by rw [hrec]; exact hps x)
      rw [hrec] at hy
      refine ⟨fn, _, assign, body, hy, roundIn_of_wpIn hfn (hassign _ x W _ fun g W' hg hW' harr => ?_)⟩
      have hl' := (hW'.block _ hlt').trans hwl
      have hk' := (hW'.block D (by omega)).trans hwk
      refine ⟨_, run_beginRound hl' (by rw [hrec]), ?_⟩
      obtain ⟨X, hX⟩ : ∃ X, W'.putObj l (.loop { rec .ready none with state := .busy }) = X := ⟨_, rfl⟩
      have xt : Turns (fun k => w.heap.size ≤ k ∧ ¬ M k) W' X := hX ▸ (Turns.refl _ _).of_put ⟨hlt, hml⟩ _
      have xl : X.heap[l]? = some (.loop { rec .ready none with state := .busy }) := hX ▸ World.putObj_heap_same (Array.getElem?_eq_some_iff.1 hl').1
      have xo : ∀ k, k ≠ l → X.heap[k]? = W'.heap[k]? := fun k hk => hX ▸ World.putObj_heap_other hk
      have xz : X.heap.size = W'.heap.size := by rw [← hX]; simp
      have xe : X.os = W'.os ∧ X.tape = W'.tape ∧ X.output = W'.output := ⟨xt.os, xt.tape, xt.output⟩
      have wz := hW'.size
      rw [hX]
      have hiX := hI _ _ _ _ (hI _ _ _ _ hi (Turns.of_below hW')) xt
      refine wpIn_mono (hbody _ pre x g M X hiX hpre ((xo g (by omega)).trans harr) (fun hm => by have := hmlt _ hm; omega) (fun k hk => by have := hmlt k hk; omega) (by omega)) ?_
      have fin : ∀ (jump : Option Code) (M' : Nat → Prop) (Y : World), Grown M M' X Y →
          (Instr.endRound l jump).run P Y = .ok (.bool jump.isNone) (Y.putObj l (.loop (rec (if jump.isNone then .ready else .done) jump))) ∧
          Turns (fun k => w.heap.size ≤ k ∧ ¬ M' k) Y (Y.putObj l (.loop (rec (if jump.isNone then .ready else .done) jump))) ∧
          (Y.putObj l (.loop (rec (if jump.isNone then .ready else .done) jump))).heap[l]? = some (.loop (rec (if jump.isNone then .ready else .done) jump)) ∧
          (Y.putObj l (.loop (rec (if jump.isNone then .ready else .done) jump))).heap[D]? = some (.deferred (some [])) ∧ ¬ M' l ∧ ¬ M' D := fun jump M' Y hG => by
        have ml : ¬ M' l := fun h => by rcases hG.new _ h with h | h; exact hml h; omega
        have md : ¬ M' D := fun h => by rcases hG.new _ h with h | h; exact hmd h; omega
        have yl := (hG.turns.block l (by omega) ml).trans xl
        have yk := (hG.turns.block D (by omega) md).trans ((xo D (fun e => hlD e.symm)).trans hk')
        have yz := hG.turns.size
        have hend := run_endRound (P := P) jump yl
        exact ⟨by rw [hrec] at hend ⊢; exact hend, (Turns.refl _ _).of_put ⟨hlt, ml⟩ _, World.putObj_heap_same (by omega), (World.putObj_heap_other (fun e => hlD e.symm)).trans yk, ml, md⟩
      rintro e a3 Y hp
      cases e with
      | normal =>
        obtain ⟨M', hG, hi3⟩ := hp
        obtain ⟨hr, ht, hl4, hk4, ml, md⟩ := fin none M' Y hG
        have yz := hG.turns.size
        refine ⟨_, _, hr, M', .inl ⟨rfl, ⟨hG.keep, fun k hk => ?_, fun k hk => ?_, ?_, ?_, ?_, ?_, fun k hk hn => ?_⟩, hI _ _ _ _ hi3 ht, hl4, hk4, ml, md, fun k hk => ?_⟩⟩
        · rcases hG.new _ hk with h | h
          · exact .inl h
          · exact .inr (by omega)
        · have := hG.lt _ hk; simpa using this
        · exact hG.turns.os.trans (xe.1.trans hW'.os)
        · exact hG.turns.tape.trans (xe.2.1.trans hW'.tape)
        · exact hG.turns.output.trans (xe.2.2.trans hW'.output)
        · simp; omega
        · by_cases e : k = l
          · subst e; exact hl4.trans hwl.symm
          · rw [World.putObj_heap_other e, hG.turns.block k (by omega) hn, xo k e, hW'.block k hk]
        · have := hG.lt _ hk; simpa using this
      | ret =>
        obtain ⟨M', hG, hi3⟩ := hp
        obtain ⟨hr, ht, hl4, hk4, ml, md⟩ := fin (some .ret) M' Y hG
        exact ⟨_, _, hr, M', .inr ⟨rfl, .ret, hIx _ _ _ _ _ hi3 ht, hl4, hk4, ml, md⟩⟩
      | exit id =>
        obtain ⟨M', hG, hi3⟩ := hp
        obtain ⟨hr, ht, hl4, hk4, ml, md⟩ := fin (some (.exit id)) M' Y hG
        exact ⟨_, _, hr, M', .inr ⟨rfl, .exit id, hIx _ _ _ _ _ hi3 ht, hl4, hk4, ml, md⟩⟩
      | goto t =>
        obtain ⟨M', hG, hi3⟩ := hp
        obtain ⟨hr, ht, hl4, hk4, ml, md⟩ := fin (some (.goto t)) M' Y hG
        exact ⟨_, _, hr, M', .inr ⟨rfl, .goto t, hIx _ _ _ _ _ hi3 ht, hl4, hk4, ml, md⟩⟩
      | panic ch => exact hp.elim
      | outgrown => exact hp.elim
    · rintro e W2 ⟨⟨v, rfl⟩, (⟨M', hi, hwl, hwk, hml, hmd, hmlt⟩ | ⟨pre, M', hp, c, hi, hwl, hwk, hml, hmd⟩)⟩
      · have hend := run_endLoop (P := P) hwl (by rw [hrec]; simp)
        rw [show (rec LoopState.ready none).pending = none by rw [hrec]] at hend
        exact ⟨none, _, hend, hdone D M' _ hDt hmd (hI _ _ _ _ hi ((Turns.refl _ _).of_put ⟨hlt, hml⟩ _)) ((World.putObj_heap_other (fun e => hlD e.symm)).trans hwk)⟩
      · have hend := run_endLoop (P := P) hwl (by rw [hrec]; simp)
        rw [show (rec LoopState.done (some c)).pending = some c by rw [hrec]] at hend
        exact ⟨some c, _, hend, hstop D c pre M' _ hDt hmd hp (hIx _ _ _ _ _ hi ((Turns.refl _ _).of_put ⟨hlt, hml⟩ _)) ((World.putObj_heap_other (fun e => hlD e.symm)).trans hwk)⟩
end Go.Proofs.YtfannkpnmaeljaaGreatDoor.Cal

/- The iterator over a zone's stretches. -/
namespace Go.Proofs.YtfannkpnmaeljaaGreatDoor.Cal
open Go.RowKit Go.Shelf
attribute [local go_sem] Oper.semAt_some

/-- The shifts of a zone lie at p. -/
def ShAt (w : World) (n₀ : Nat) (p : Option Addr) (sh : List (Int × Int)) : Prop :=
  ∀ i, i < sh.length → ∃ b o, p = some ⟨b, o, none⟩ ∧ b < n₀ ∧ w.cell? ⟨b, o + i * 2, none⟩ = some (iv (sh.getD i (0, 0)).1) ∧ w.cell? ⟨b, o + i * 2 + 1, none⟩ = some (iv (sh.getD i (0, 0)).2)
theorem ShAt.below {w w' : World} {n₀ : Nat} {p : Option Addr} {sh : List (Int × Int)} (h : ShAt w n₀ p sh) (hb : Below n₀ w w') : ShAt w' n₀ p sh := fun i hi => by
  obtain ⟨b, o, h1, h2, h3, h4⟩ := h i hi
  exact ⟨b, o, h1, h2, (hb.cell (p := ⟨b, _, none⟩) h2).trans h3, (hb.cell (p := ⟨b, _, none⟩) h2).trans h4⟩
theorem ShAt.mono {w : World} {n₀ n₁ : Nat} {p : Option Addr} {sh : List (Int × Int)} (h : ShAt w n₀ p sh) (hn : n₀ ≤ n₁) : ShAt w n₁ p sh := fun i hi => by
  obtain ⟨b, o, h1, h2, h3, h4⟩ := h i hi
  exact ⟨b, o, h1, by omega, h3, h4⟩

def encS (x : Str) : Array Value := #[.agg #[iv x.1, iv x.2.1, iv x.2.2]]

set_option maxHeartbeats 1000000 in
theorem stretches_in (F : Fence) (n : Nat) (hf : F.fn 108) (hro : F.round = none) (z : Array Value) (w : World) :
    CallsIn F n Tryz.prog 108 #[.agg z] w fun e w' => e = .returned (.func (.func 129) #[] #[.pointer (some ⟨w.heap.size, 0, none⟩)]) ∧ w' = w.alloc (.cells z 26) := by
  refine callsIn_of_wp Tryz.func108 rfl hf ?_ hro
  simp only [Tryz.ntmps108, List.size_toArray, List.length_cons, List.length_nil, Nat.reduceAdd, Nat.reduceSub, Array.replicate_succ, Array.replicate_zero, List.push_toArray, List.append_toArray, List.nil_append, List.cons_append]
  gi_wp2
  go_ret
  exact ⟨rfl, rfl⟩

set_option maxRecDepth 100000 in
set_option maxHeartbeats 4000000 in
theorem stretches_hands (F : Fence) (n : Nat) (hf : F.fn 129) (hro : F.round = none) (hn : 1 ≤ n) (Zb n₀ : Nat) (off : Int) (p : Option Addr) (cap : Nat) (sh : List (Int × Int)) (w : World)
    (hn0 : n₀ ≤ w.heap.size) (hZ : Arr w Zb 26 [iv off, .slice p sh.length cap]) (hS : ShAt w n₀ p sh) (hlen : sh.length ≤ 1000) :
    Hands F n Tryz.prog 129 #[.pointer (some ⟨Zb, 0, none⟩)] encS (fun k => k < n₀ ∨ k = Zb) (strs 0 off sh) w := by
  intro l J Jx M0 W hW hM hJ hJx hY h0
  have hZl := hZ.lt
  have hWs := hW.size
  have hZW := hZ.below hW hZl
  have hSW := hS.below (hW.mono hn0)
  have zc0 := hZW.cell (i := 0) rfl
  have zc1 := hZW.cell (i := 1) rfl
  refine callsIn_of_wp Tryz.func129 rfl hf ?_ hro
  simp only [Tryz.ntmps129, List.size_toArray, List.length_cons, List.length_nil, Nat.reduceAdd, Nat.reduceSub, Array.replicate_succ, Array.replicate_zero, List.push_toArray, List.append_toArray, List.nil_append, List.cons_append]
  have hZb : Zb < W.heap.size := by omega
  gi_wp2
  obtain ⟨W0, hW0, b0, z0, ka⟩ : ∃ W0, W.alloc (.cells #[.int .i64 0, .int .i64 0, .int .i64 off] 131) = W0 ∧ Below W.heap.size W W0 ∧ W0.heap.size = W.heap.size + 1 ∧ Arr W0 W.heap.size 131 [iv 0, iv 0, iv off] :=
    ⟨_, rfl, (Below.refl _ _).alloc (Nat.le_refl _) _, by simp, Arr.new W 131 [iv 0, iv 0, iv off]⟩
  rw [hW0]; clear hW0
  have hJ0 := hJ _ _ _ _ h0 (Turns.of_below b0)
  have hZ0 := hZW.below b0 hZb
  have hS0 := hSW.below (b0.mono (by omega))
  clear zc0 zc1 hZW hSW h0 hZ hS
  obtain ⟨C, hC⟩ : ∃ C, W.heap.size = C := ⟨_, rfl⟩
  rw [hC] at ka z0 hWs hZb hJ hJx b0 ⊢
  have hMC : ∀ k, M0 k → k < W0.heap.size ∧ n₀ ≤ k ∧ k ≠ Zb ∧ k ≠ C := fun k hk => by
    have := hM k hk
    rw [not_or] at this
    omega
  gi_loopw [12] (fun i wr => ∃ (k : Nat) (pre : List Str) (M : Nat → Prop) (f x o : Int), i = .int .i64 k ∧ k ≤ sh.length ∧ strs 0 off sh = pre ++ strs f o (sh.drop k) ∧ J pre M wr ∧ (∀ j, M j → j < wr.heap.size ∧ n₀ ≤ j ∧ j ≠ Zb ∧ j ≠ C) ∧
      Arr wr C 131 [iv f, iv x, iv o] ∧ Arr wr Zb 26 [iv off, .slice p sh.length cap] ∧ ShAt wr n₀ p sh)
    (fun i _ => sh.length - (intOf i).toNat)
  case atStart => exact ⟨0, [], M0, 0, 0, off, rfl, Nat.zero_le _, rfl, hJ0, hMC, ka, hZ0, hS0⟩
  case round =>
    obtain ⟨k, pre, M, f, x, o, rfl, hk, hx, hJs, hMs, kc, kz, ks⟩ := hrel
    clear hJ0 hMC ka hZ0 hS0
    have hCl := kc.lt
    have hZl2 := kz.lt
    by_cases hlt : k < sh.length
    · obtain ⟨b, ob, rfl, hb, s0, s1⟩ := ks k hlt
      rw [strs_drop hlt] at hx
      obtain ⟨at1, hat⟩ : ∃ a, (sh.getD k (0, 0)).1 = a := ⟨_, rfl⟩
      obtain ⟨of1, hof⟩ : ∃ a, (sh.getD k (0, 0)).2 = a := ⟨_, rfl⟩
      rw [hat] at s0 hx
      rw [hof] at s1 hx
      have HX := Lib.hid hx; clear hx hat hof
      have c0 := kc.cell (i := 0) rfl
      have c1 := kc.cell (i := 1) rfl
      have c2 := kc.cell (i := 2) rfl
      have f1 := kc.frozen 1
      gi_wp2_with fail
      obtain ⟨S, hS⟩ : ∃ S, wr.heap.size = S := ⟨_, rfl⟩
      obtain ⟨W2, hW2, b2, z2, t2, kc2, kz2, kn2⟩ : ∃ W2, (wr.setCell ⟨C, 1, none⟩ (.int .i64 at1)).alloc (.cells #[.int .i64 at1, .int .i64 of1] 83) = W2 ∧ Below n₀ wr W2 ∧ W2.heap.size = S + 1 ∧ Turns (fun j => C ≤ j ∧ ¬ M j) wr W2 ∧
          Arr W2 C 131 [iv f, iv at1, iv o] ∧ Arr W2 Zb 26 [iv off, .slice (some ⟨b, ob, none⟩) sh.length cap] ∧ Arr W2 S 83 [iv at1, iv of1] := by
        refine ⟨_, rfl, ((Below.refl _ _).setCell (p := ⟨C, 1, none⟩) (by simp; omega) _).alloc (by simp; omega) _, by simp; omega, ((Turns.refl _ _).of_setCell (p := ⟨C, 1, none⟩) (.inl ⟨Nat.le_refl _, fun h => (hMs C h).2.2.2 rfl⟩) _).of_alloc _,
          (kc.set 1 (iv at1)).alloc _, (kz.set_other 1 (iv at1) (by omega)).alloc _, ?_⟩
        exact Arr.new' 83 [iv at1, iv of1] (by simp; omega)
      rw [hW2, hS]; clear hW2 c0 c1 c2 f1 kc kz
      have ks2 := ks.below b2
      have hJ2 := hJ _ _ _ _ hJs t2
      obtain ⟨fn, tmps, assign, body, hy, hR⟩ := hY pre (f, at1, o) M W2 hJ2 ⟨strs at1 of1 (sh.drop (k + 1)), by rw [HX.out]; simp⟩
      unfold encS at hy
      dsimp only at hy
      rw [hy]
      gi_wp2
      refine hR.mono ?_
      rintro e W3 ⟨M', (⟨rfl, hG, hJ3⟩ | ⟨rfl, hJx3⟩)⟩
      · have m0 : ∀ j, M' j → j < W3.heap.size ∧ n₀ ≤ j ∧ j ≠ Zb ∧ j ≠ C := fun j hj => by
          have h1 := hG.lt j hj
          rcases hG.new j hj with h | h
          · have := hMs j h; exact ⟨h1, this.2⟩
          · exact ⟨h1, by omega⟩
        have mS : ¬ M' S := fun h => by
          rcases hG.new S h with h | h
          · have := (hMs S h).1; omega
          · omega
        have kc3 := hG.turns.arr kc2 (fun h => (m0 _ h).2.2.2 rfl)
        have kz3 := hG.turns.arr kz2 (fun h => (m0 _ h).2.2.1 rfl)
        have kn3 := hG.turns.arr kn2 mS
        have ks3 := ks2.below (hG.turns.below (by omega) (fun j hj => (m0 j hj).2.1))
        have z3 := hG.turns.size
        clear kc2 kz2 kn2 ks2 hR hJ2
        have c0 := kc3.cell (i := 0) rfl
        have c1 := kc3.cell (i := 1) rfl
        have c2 := kc3.cell (i := 2) rfl
        have f0 := kc3.frozen 0
        have f1 := kc3.frozen 1
        have f2 := kc3.frozen 2
        have n0 := kn3.cell (i := 0) rfl
        have n1 := kn3.cell (i := 1) rfl
        gi_wp2_with fail
        obtain ⟨W4, hW4, b4, z4, t4, kc4, kz4⟩ : ∃ W4, ((W3.setCell ⟨C, 0, none⟩ (.int .i64 at1)).setCell ⟨C, 1, none⟩ (.int .i64 0)).setCell ⟨C, 2, none⟩ (.int .i64 of1) = W4 ∧ Below n₀ W3 W4 ∧ W4.heap.size = W3.heap.size ∧ Turns (fun j => C ≤ j ∧ ¬ M' j) W3 W4 ∧
            Arr W4 C 131 [iv at1, iv 0, iv of1] ∧ Arr W4 Zb 26 [iv off, .slice (some ⟨b, ob, none⟩) sh.length cap] := by
          have mC : C ≤ C ∧ ¬ M' C := ⟨Nat.le_refl _, fun h => (m0 C h).2.2.2 rfl⟩
          refine ⟨_, rfl, (((Below.refl _ _).setCell (p := ⟨C, 0, none⟩) (by simp; omega) _).setCell (p := ⟨C, 1, none⟩) (by simp; omega) _).setCell (p := ⟨C, 2, none⟩) (by simp; omega) _, by simp,
            (((Turns.refl _ _).of_setCell (p := ⟨C, 0, none⟩) (.inl mC) _).of_setCell (p := ⟨C, 1, none⟩) (.inl mC) _).of_setCell (p := ⟨C, 2, none⟩) (.inl mC) _,
            ((kc3.set 0 (iv at1)).set 1 (iv 0)).set 2 (iv of1), ?_⟩
          exact ((kz3.set_other 0 (iv at1) (by omega)).set_other 1 (iv 0) (by omega)).set_other 2 (iv of1) (by omega)
        rw [hW4]; clear hW4
        refine ⟨⟨k + 1, pre ++ [(f, at1, o)], M', at1, 0, of1, by go_num, by omega, by rw [HX.out]; simp, hJ _ _ _ _ hJ3 t4, fun j hj => ?_, kc4, kz4, ks3.below b4⟩, by simp [intOf]; omega⟩
        have := m0 j hj
        omega
      · gi_wp2
        refine bodyPost_ret (results_none rfl _ _ _) rfl ?_
        exact ⟨⟨_, rfl⟩, .inr ⟨pre ++ [(f, at1, o)], M', ⟨strs at1 of1 (sh.drop (k + 1)), by rw [HX.out]; simp⟩, hJx3⟩⟩
    · obtain rfl : k = sh.length := by omega
      rw [strs_end] at hx
      have HX := Lib.hid hx; clear hx
      have c0 := kc.cell (i := 0) rfl
      have c1 := kc.cell (i := 1) rfl
      have c2 := kc.cell (i := 2) rfl
      have f1 := kc.frozen 1
      gi_wp2_with fail
      obtain ⟨W2, hW2, t2, kc2⟩ : ∃ W2, wr.setCell ⟨C, 1, none⟩ (.int .i64 10000000001) = W2 ∧ Turns (fun j => C ≤ j ∧ ¬ M j) wr W2 ∧ Arr W2 C 131 [iv f, iv 10000000001, iv o] :=
        ⟨_, rfl, (Turns.refl _ _).of_setCell (p := ⟨C, 1, none⟩) (.inl ⟨Nat.le_refl _, fun h => (hMs C h).2.2.2 rfl⟩) _, kc.set 1 (iv 10000000001)⟩
      rw [hW2]; clear hW2 c0 c1 c2 f1 kc
      have hJ2 := hJ _ _ _ _ hJs t2
      have c0 := kc2.cell (i := 0) rfl
      have c1 := kc2.cell (i := 1) rfl
      have c2 := kc2.cell (i := 2) rfl
      obtain ⟨fn, tmps, assign, body, hy, hR⟩ := hY pre (f, 10000000001, o) M W2 hJ2 ⟨[], by rw [HX.out]; simp⟩
      unfold encS at hy
      dsimp only at hy
      rw [hy]
      gi_wp2
      refine hR.mono ?_
      rintro e W3 ⟨M', (⟨rfl, hG, hJ3⟩ | ⟨rfl, hJx3⟩)⟩
      · gi_wp2
        go_end0
        exact ⟨⟨_, rfl⟩, .inl ⟨M', by rw [HX.out]; exact hJ3⟩⟩
      · gi_wp2
        go_end0
        exact ⟨⟨_, rfl⟩, .inr ⟨_, M', by rw [HX.out]; exact List.prefix_refl _, hJx3⟩⟩
end Go.Proofs.YtfannkpnmaeljaaGreatDoor.Cal

/- Valid. -/
namespace Go.Proofs.YtfannkpnmaeljaaGreatDoor.Cal
open Go.RowKit

theorem boxZ (w : World) (off : Int) (v : Value) : ∃ W0, w.alloc (.cells #[iv off, v] 26) = W0 ∧ Below w.heap.size w W0 ∧ W0.heap.size = w.heap.size + 1 ∧ Arr W0 w.heap.size 26 [iv off, v] :=
  ⟨_, rfl, (Below.refl _ w).alloc (Nat.le_refl _) _, by simp, Arr.new w 26 [iv off, v]⟩
theorem bthen2 {a b c : World} {n : Nat} (h : Below n a b) (k : Below b.heap.size b c) (hn : n ≤ b.heap.size) : Below n a c := h.trans (k.mono hn)

set_option maxRecDepth 100000 in
set_option maxHeartbeats 4000000 in
theorem valid_any (off : Int) (p : Option Addr) (cap n₀ : Nat) (sh : List (Int × Int)) (w : World) (hn : n₀ ≤ w.heap.size) (hS : ShAt w n₀ p sh) (hlen : sh.length ≤ 1000) :
    Calls Tryz.prog 65 #[.agg #[iv off, .slice p sh.length cap]] w fun e w' => e = .returned (.bool (validZ off sh)) ∧ Below w.heap.size w w' := by
  obtain ⟨V, hV⟩ : ∃ V, validZ off sh = V := ⟨_, rfl⟩
  rw [hV]
  unfold validZ at hV
  by_cases h1 : okOff off = true
  · by_cases h2 : sh.length ≤ 40
    · rw [h1, decide_eq_true h2, Bool.true_and, Bool.true_and] at hV
      have h2' : decide (40 < sh.length) = false := by simp; omega
      go_enter Tryz.func65, Tryz.ntmps65
      go_wp2_with fail
      obtain ⟨W0, hW0, b0, z0, ka⟩ := boxZ w off (.slice p sh.length cap)
      rw [hW0]; clear hW0
      have c0 := ka.cell (i := 0) rfl
      have c1 := ka.cell (i := 1) rfl
      have hS0 := hS.below (b0.mono hn)
      clear hS
      have HV := Lib.hid hV; clear hV
      go_wp2_with (go_at_call 82; refine Calls.mono (isOffset_any _ _) ?_; rintro e w' ⟨rfl, rfl⟩)
      obtain ⟨Z, hZ⟩ : ∃ Z, w.heap.size = Z := ⟨_, rfl⟩
      rw [hZ] at *
      go_loopw [3, 19] (fun l i wr => ∃ (k : Nat) (last : Int), i = .int .i64 k ∧ l = .int .i64 last ∧ k ≤ sh.length ∧ V = ascZ last (sh.drop k) ∧ Below W0.heap.size W0 wr) (fun _ i _ => sh.length - (intOf i).toNat)
      case atStart => exact ⟨0, -1, rfl, rfl, Nat.zero_le _, HV.out.symm, Below.refl _ _⟩
      case round =>
        obtain ⟨k, last, rfl, rfl, hk, hx, hB⟩ := hrel
        have hs := hB.size
        by_cases hlt : k < sh.length
        · rw [ascZ_drop hlt] at hx
          obtain ⟨b, ob, rfl, hb, s0, s1⟩ := (hS0.below (hB.mono (by omega))) k hlt
          obtain ⟨a, ha⟩ : ∃ a, (sh.getD k (0, 0)).1 = a := ⟨_, rfl⟩
          obtain ⟨o, ho⟩ : ∃ a, (sh.getD k (0, 0)).2 = a := ⟨_, rfl⟩
          rw [ha] at s0 hx
          rw [ho] at s1 hx
          have HX := Lib.hid hx; clear hx ha ho
          by_cases q1 : last < a
          · by_cases q2 : okSec a = true
            · by_cases q3 : okOff o = true
              · go_wp2_with (first | (go_at_call 82; refine Calls.mono (isOffset_any _ _) ?_; rintro e w' ⟨rfl, rfl⟩) | (go_at_call 83; refine Calls.mono (isSecond_any _ _) ?_; rintro e w' ⟨rfl, rfl⟩))
                go_roundw
                case rel => exact ⟨k + 1, a, by go_num, rfl, by omega, by rw [HX.out, q2, q3, decide_eq_true q1]; simp, hB.alloc hB.size _⟩
                case measure => simp [intOf]; omega
              · rw [Bool.not_eq_true] at q3
                go_wp2_with (first | (go_at_call 82; refine Calls.mono (isOffset_any _ _) ?_; rintro e w' ⟨rfl, rfl⟩) | (go_at_call 83; refine Calls.mono (isSecond_any _ _) ?_; rintro e w' ⟨rfl, rfl⟩))
                go_ret
                exact ⟨by rw [HX.out, q3]; simp, b0.trans ((hB.mono (by omega)).alloc (by omega) _)⟩
            · rw [Bool.not_eq_true] at q2
              go_wp2_with (first | (go_at_call 82; refine Calls.mono (isOffset_any _ _) ?_; rintro e w' ⟨rfl, rfl⟩) | (go_at_call 83; refine Calls.mono (isSecond_any _ _) ?_; rintro e w' ⟨rfl, rfl⟩))
              go_ret
              exact ⟨by rw [HX.out, q2]; simp, b0.trans ((hB.mono (by omega)).alloc (by omega) _)⟩
          · have q1' : a ≤ last := by omega
            go_wp2_with (first | (go_at_call 82; refine Calls.mono (isOffset_any _ _) ?_; rintro e w' ⟨rfl, rfl⟩) | (go_at_call 83; refine Calls.mono (isSecond_any _ _) ?_; rintro e w' ⟨rfl, rfl⟩))
            go_ret
            exact ⟨by rw [HX.out, decide_eq_false (show ¬ last < a by omega)]; simp, b0.trans ((hB.mono (by omega)).alloc (by omega) _)⟩
        · obtain rfl : k = sh.length := by omega
          rw [List.drop_length] at hx
          have HX := Lib.hid hx; clear hx
          go_wp2_with fail
          go_ret
          exact ⟨by rw [HX.out]; rfl, b0.trans (hB.mono (by omega))⟩
    · rw [h1, decide_eq_false h2, Bool.true_and, Bool.false_and] at hV
      subst hV
      have h2' : decide (40 < sh.length) = true := by simp; omega
      go_enter Tryz.func65, Tryz.ntmps65
      go_wp2_with fail
      obtain ⟨W0, hW0, b0, z0, ka⟩ := boxZ w off (.slice p sh.length cap)
      rw [hW0]; clear hW0
      have c0 := ka.cell (i := 0) rfl
      have c1 := ka.cell (i := 1) rfl
      go_wp2_with (first | (go_at_call 82; refine Calls.mono (isOffset_any _ _) ?_; rintro e w' ⟨rfl, rfl⟩) | (go_at_call 83; refine Calls.mono (isSecond_any _ _) ?_; rintro e w' ⟨rfl, rfl⟩))
      go_ret
      exact ⟨rfl, b0⟩
  · rw [Bool.not_eq_true] at h1
    rw [h1, Bool.false_and, Bool.false_and] at hV
    subst hV
    go_enter Tryz.func65, Tryz.ntmps65
    go_wp2_with fail
    obtain ⟨W0, hW0, b0, z0, ka⟩ := boxZ w off (.slice p sh.length cap)
    rw [hW0]; clear hW0
    have c0 := ka.cell (i := 0) rfl
    go_wp2_with (first | (go_at_call 82; refine Calls.mono (isOffset_any _ _) ?_; rintro e w' ⟨rfl, rfl⟩) | (go_at_call 83; refine Calls.mono (isSecond_any _ _) ?_; rintro e w' ⟨rfl, rfl⟩))
    go_ret
    exact ⟨rfl, b0⟩
end Go.Proofs.YtfannkpnmaeljaaGreatDoor.Cal
