/- Blocks and boxes. -/
import Derived.Test.YtjocgipjmcnjfaaRows
import Derived.Test.YtjocgipjmcnjfaaSpMath
import Derived.WalkKit
import Derived.WalkSpells
import Derived.WalkLawsBesides
import Derived.Lib.Hide
import Derived.Below
import Derived.Laws.Cells
import Derived.Laws.Rows
import Derived.Laws.Tables
import Derived.RangeFuncNested
import Derived.RangeFuncBound
import Derived.RangeFuncCalls
import Derived.RangeFuncLeaves
import Derived.RangeFuncBox
import Derived.RangeFuncWrites
import Derived.Shelf.Abstract
import Derived.Shelf.RegionOpen
import Derived.OwnWalkIn
import Derived.TacticsInMore
import Derived.LoopNIn
import Derived.LoopIn
import Derived.Lib.BufferWrite
import Derived.Laws.MakeOwn
import Derived.Laws.AppendOwn
import Derived.Laws.OwnMore
import Derived.Maps.AppendAt
import Derived.Deep.QuietTactic
import Derived.BigQuiet
import Derived.Shelf.SlSortCmp.QuietGrown
namespace Go.Proofs.Ytjocgipjmcnjfaa
open Go.RowKit

abbrev iv (n : Int) : Value := .int .i64 n
theorem w64 {n : Int} (h1 : -9223372036854775808 ≤ n) (h2 : n ≤ 9223372036854775807) : IntKind.i64.wrap n = n := by
  rw [IntKind.wrap_i64]; omega
theorem ret_int {k : IntKind} {a b : Int} (h : a = b) : Ending.returned (.int k a) = .returned (.int k b) := by rw [h]
theorem bthen {a b c : World} (h : Below a.heap.size a b) (k : Below b.heap.size b c) : Below a.heap.size a c := h.trans (k.mono h.size)
theorem bcell {W w1 : World} (hb : Below W.heap.size W w1) : (∀ b o, b < W.heap.size → w1.cell? ⟨b, o, none⟩ = W.cell? ⟨b, o, none⟩) ∧ (∀ b o, b < W.heap.size → w1.frozen? ⟨b, o, none⟩ = W.frozen? ⟨b, o, none⟩) :=
  ⟨fun b o h => hb.cell (p := ⟨b, o, none⟩) h, fun b o h => hb.frozen (p := ⟨b, o, none⟩) h⟩

/-! ### Arrays in blocks of their own -/
def Arr (W : World) (B : Nat) (t : TypeId) (vs : List Value) : Prop := W.heap[B]? = some (.cells vs.toArray t (0, 0))

theorem Arr.cell {W : World} {B : Nat} {t : TypeId} {vs : List Value} (h : Arr W B t vs) {i : Nat} {v : Value} (hv : vs[i]? = some v) : W.cell? ⟨B, i, none⟩ = some v := by
  rw [cell_of_row _ _ i _ t (0, 0) h]
  simpa using hv
theorem Arr.below {W W' : World} {B n : Nat} {t : TypeId} {vs : List Value} (h : Arr W B t vs) (hb : Below n W W') (hB : B < n) : Arr W' B t vs := (hb.block B hB).trans h
theorem Arr.lt {W : World} {B : Nat} {t : TypeId} {vs : List Value} (h : Arr W B t vs) : B < W.heap.size := (Array.getElem?_eq_some_iff.1 h).1
theorem Arr.alloc {W : World} {B : Nat} {t : TypeId} {vs : List Value} (h : Arr W B t vs) (o : Obj) : Arr (W.alloc o) B t vs := (Below.heap_alloc _ _ _ h.lt).trans h
theorem Arr.new (W : World) (t : TypeId) (vs : List Value) : Arr (W.alloc (.cells vs.toArray t)) W.heap.size t vs := heap_alloc_new W _
theorem Arr.new' {W : World} {n : Nat} (t : TypeId) (vs : List Value) (hn : n = W.heap.size) : Arr (W.alloc (.cells vs.toArray t)) n t vs := hn ▸ heap_alloc_new W _
theorem Arr.frozen {W : World} {B : Nat} {t : TypeId} {vs : List Value} (h : Arr W B t vs) (i : Nat) : W.frozen? ⟨B, i, none⟩ = false := by
  unfold World.frozen?
  rw [h]
  simp
theorem Arr.drew {W : World} {B : Nat} {t : TypeId} {vs : List Value} (h : Arr W B t vs) : Arr W.drew B t vs := h

theorem Arr.set {W : World} {B : Nat} {t : TypeId} {vs : List Value} (h : Arr W B t vs) (i : Nat) (v : Value) : Arr (W.setCell ⟨B, i, none⟩ v) B t (vs.set i v) := by
  have := heap_setCell_same W B i _ t v h
  unfold Arr
  rw [this]; simp
theorem Arr.set_other {W : World} {B C : Nat} {t : TypeId} {vs : List Value} (h : Arr W B t vs) (i : Nat) (v : Value) (hne : C ≠ B) : Arr (W.setCell ⟨C, i, none⟩ v) B t vs := by
  unfold Arr World.setCell
  simp [Array.getElem?_modify, hne]
  exact h

theorem Arr.row {W : World} {B : Nat} {t : TypeId} {vs : List Value} (h : Arr W B t vs) (us : List Value) : Arr (W.setRow B us.toArray) B t us := setRow_heap _ _ _ _ _ _ h
theorem Arr.row_other {W : World} {B C : Nat} {t : TypeId} {vs : List Value} (h : Arr W B t vs) (us : Array Value) (hne : C ≠ B) : Arr (W.setRow C us) B t vs := (setRow_other _ _ _ _ (Ne.symm hne)).trans h
theorem below_setRow {n C : Nat} {w W : World} (h : Below n w W) (hC : n ≤ C) (us : Array Value) : Below n w (W.setRow C us) :=
  h.trans ⟨rfl, rfl, rfl, by simp, fun k hk => setRow_other _ _ _ _ (by omega)⟩

theorem Arr.load {P : Program} {W : World} {B : Nat} {t : TypeId} {vs : List Value} (h : Arr W B t vs) {n : Nat} (hn : vs.length = n) :
    (loadCellsFrom ⟨B, 0, none⟩ 0 n #[]).run P W = .ok vs.toArray W := by
  subst hn
  have := run_loadCells_list (P := P) W ⟨B, 0, none⟩ vs (fun j v hv => by
    have hadd : (⟨B, 0, none⟩ : Addr).add j = ⟨B, j, none⟩ := by unfold Addr.add; split <;> simp_all
    rw [hadd]; exact h.cell hv)
  simpa [loadCells] using this

theorem Arr.store {P : Program} {W : World} {B : Nat} {t : TypeId} {vs : List Value} (h : Arr W B t vs) (out : Array Value) (hi : (P.info? t).map (·.size) = some out.size) (hs : vs.toArray.size = out.size) (h1 : out.all (·.oneCell') = true) :
    (storeCells ⟨B, 0, none⟩ out.toList 0).run P W = .ok () (W.setRow B out) := by
  have := run_storeVar_row (P := P) W B t t vs.toArray out h hi hs h1
  cases hq : P.info? t with
  | none => simp [hq] at hi
  | some i =>
    have hs : out.size = i.size := by simp [hq] at hi; omega
    simpa [storeVar, sizeOf, typeInfo, hq, Value.cells, hs] using this

/-- A store of a whole array: the world behind it by what is known of it. -/
theorem wpList_store_abs {P : Program} {ops : Array Oper} {rest : List Oper} {o : Oper} {a : Act} {w : World} {Q : Exit → Act → World → Prop} (hgd : o.guard = none) (ty : TypeId) (x y : Operand) (ho : o.op = .store ty x y)
    (g : Nat) (cells : Array Value) (hx : a.eval x = .pointer (some ⟨g, 0, none⟩)) (hy : a.eval y = .agg cells)
    (t : TypeId) (old : Array Value) (hg : w.heap[g]? = some (.cells old t (0, 0))) (hi : (P.info? ty).map (·.size) = some cells.size)
    (hold : old.size = cells.size) (h1 : cells.all (·.oneCell') = true)
    (h : ∀ W, W.heap[g]? = some (.cells cells t (0, 0)) → Below g w W → (∀ k, k ≠ g → W.heap[k]? = w.heap[k]?) → wpList P ops Q rest (a.put o.dst undef) W) : wpList P ops Q (o :: rest) a w :=
  wpList_store_row hgd ty x y ho g cells hx hy t old hg hi hold h1 (h _ (setRow_heap _ _ _ _ _ _ hg) (below_setRow (Below.refl _ _) (Nat.le_refl _) _) (fun k hk => setRow_other _ _ _ _ hk))


/-! ### Rows of spans -/
/-- The spans of l lie at p. -/
def ShAt (w : World) (n₀ : Nat) (p : Option Addr) (sh : List (Int × Int)) : Prop :=
  ∀ i, i < sh.length → ∃ b o, p = some ⟨b, o, none⟩ ∧ b < n₀ ∧ w.cell? ⟨b, o + i * 2, none⟩ = some (iv (sh.getD i (0, 0)).1) ∧ w.cell? ⟨b, o + i * 2 + 1, none⟩ = some (iv (sh.getD i (0, 0)).2)
theorem ShAt.below {w w' : World} {n₀ : Nat} {p : Option Addr} {sh : List (Int × Int)} (h : ShAt w n₀ p sh) (hb : Below n₀ w w') : ShAt w' n₀ p sh := fun i hi => by
  obtain ⟨b, o, h1, h2, h3, h4⟩ := h i hi
  exact ⟨b, o, h1, h2, (hb.cell (p := ⟨b, _, none⟩) h2).trans h3, (hb.cell (p := ⟨b, _, none⟩) h2).trans h4⟩
theorem ShAt.mono {w : World} {n₀ n₁ : Nat} {p : Option Addr} {sh : List (Int × Int)} (h : ShAt w n₀ p sh) (hn : n₀ ≤ n₁) : ShAt w n₁ p sh := fun i hi => by
  obtain ⟨b, o, h1, h2, h3, h4⟩ := h i hi
  exact ⟨b, o, h1, by omega, h3, h4⟩
theorem ShAt.into {w w' : World} {p : Option Addr} {sh : List (Int × Int)} (h : ShAt w w.heap.size p sh) (hb : Below w.heap.size w w') : ShAt w' w'.heap.size p sh := (h.below hb).mono hb.size
theorem ShAt.nil (w : World) (n : Nat) (p : Option Addr) : ShAt w n p [] := fun i hi => by cases hi
theorem ShAt.take {w : World} {n : Nat} {p : Option Addr} {sh : List (Int × Int)} (h : ShAt w n p sh) (k : Nat) : ShAt w n p (sh.take k) := fun i hi => by
  have hi' : i < k ∧ i < sh.length := by rw [List.length_take] at hi; omega
  have e : (sh.take k).getD i (0, 0) = sh.getD i (0, 0) := by
    rw [List.getD_eq_getElem?_getD, List.getD_eq_getElem?_getD, List.getElem?_take_of_lt hi'.1]
  rw [e]
  exact h i hi'.2

def spv (l : List (Int × Int)) : List Value := l.flatMap fun x => [iv x.1, iv x.2]
theorem spv_len (l : List (Int × Int)) : (spv l).length = l.length * 2 := by
  induction l with
  | nil => rfl
  | cons x r ih => simp [spv] at ih ⊢; omega
theorem spv_append (l m : List (Int × Int)) : spv (l ++ m) = spv l ++ spv m := by simp [spv]
theorem spv_get {l : List (Int × Int)} {i : Nat} (h : i < l.length) : (spv l)[i * 2]? = some (iv (l.getD i (0, 0)).1) ∧ (spv l)[i * 2 + 1]? = some (iv (l.getD i (0, 0)).2) := by
  induction l generalizing i with
  | nil => simp at h
  | cons x r ih =>
    cases i with
    | zero => simp [spv]
    | succ i =>
      have := ih (i := i) (by simpa using h)
      simp only [spv, List.flatMap_cons] at this ⊢
      rw [show (i + 1) * 2 = i * 2 + 2 by omega]
      simpa using this
theorem spv_one (l : List (Int × Int)) : ∀ u ∈ spv l, u.oneCell' = true := by
  intro u hu
  simp only [spv, List.mem_flatMap] at hu
  obtain ⟨x, -, hu⟩ := hu
  simp at hu
  rcases hu with rfl | rfl <;> rfl

theorem infoS : (Try.prog.info? 30).map (fun i => (i.zero, i.size, i.bytes)) = some (some (.agg #[.int .i64 0, .int .i64 0]), 2, 16) := by kernel_rfl

theorem own_sh {w : World} {N : Nat} {v : Value} {l : List (Int × Int)} (h : w.ownsRow N 30 2 v l.length (spv l)) : ∃ p cap, v = .slice p l.length cap ∧ ShAt w w.heap.size p l := by
  rcases h.2 with ⟨rfl, h0⟩ | ⟨g, cap, cur, rfl, hb, hg, h4⟩
  · rw [h0]
    exact ⟨none, 0, rfl, fun i hi => by omega⟩
  · refine ⟨_, cap, rfl, fun i hi => ?_⟩
    have hc := h.cells (g := g) rfl
    obtain ⟨s0, s1⟩ := spv_get hi
    have e : ∀ j, (⟨g, 0, none⟩ : Addr).add j = ⟨g, j, none⟩ := fun j => by unfold Addr.add; split <;> simp_all
    have c0 := hc _ _ s0
    have c1 := hc _ _ s1
    rw [e] at c0 c1
    exact ⟨g, 0, rfl, (Array.getElem?_eq_some_iff.1 hg).1, by rw [Nat.zero_add]; exact c0, by rw [Nat.zero_add]; exact c1⟩

/-- A list of the call's own. -/
def Own (w : World) (l : List (Int × Int)) (e : Ending) (w' : World) : Prop := ∃ v, e = .returned v ∧ w'.ownsRow w.heap.size 30 2 v l.length (spv l) ∧ Below w.heap.size w w'
/-- A list, of the call's own or not. -/
def Sl (w : World) (l : List (Int × Int)) (e : Ending) (w' : World) : Prop := ∃ p cap, e = .returned (.slice p l.length cap) ∧ ShAt w' w'.heap.size p l ∧ Below w.heap.size w w'
theorem Own.sl {w : World} {l : List (Int × Int)} {e : Ending} {w' : World} (h : Own w l e w') : Sl w l e w' := by
  obtain ⟨v, rfl, h1, h2⟩ := h
  obtain ⟨p, cap, rfl, h3⟩ := own_sh h1
  exact ⟨p, cap, rfl, h3, h2⟩

/-! ### Small functions -/
theorem grow_below (w : World) (n : Nat) (os : Array Obj) : Below w.heap.size w (Go.Sort.grow (w.drewN n) os) :=
  ⟨rfl, rfl, rfl, by show w.heap.size ≤ (w.heap ++ os).size; simp, fun k hk => by show (w.heap ++ os)[k]? = w.heap[k]?; rw [Array.getElem?_append_left hk]⟩
theorem isEmpty_gr (a b : Int) (w : World) : Calls Try.prog 38 #[.agg #[iv a, iv b]] w fun e w' => e = .returned (.bool (decide (b ≤ a))) ∧ ∃ q os', w' = Go.Sort.grow (w.drewN q) os' := by
  go_enter Try.func38, Try.ntmps38
  go_wp2
  go_ret
  exact ⟨rfl, 0, _, by rw [Go.Sort.alloc_eq_grow]; rfl⟩
theorem isEmpty_any (a b : Int) (w : World) : Calls Try.prog 38 #[.agg #[iv a, iv b]] w fun e w' => e = .returned (.bool (decide (b ≤ a))) ∧ Below w.heap.size w w' :=
  (isEmpty_gr a b w).mono fun _ _ ⟨he, q, os, hw⟩ => ⟨he, hw ▸ grow_below w q os⟩

theorem size_gr (a b : Int) (w : World) (ha : -9223372036854775808 ≤ a) (hb : b ≤ 9223372036854775807) (hab : a ≤ b) : Calls Try.prog 46 #[.agg #[iv a, iv b]] w fun e w' => e = .returned (.int .u64 (b - a)) ∧ ∃ q os', w' = Go.Sort.grow (w.drewN q) os' := by
  go_enter Try.func46, Try.ntmps46
  go_wp2_with fail
  go_ret
  refine ⟨ret_int ?_, 0, _, by rw [Go.Sort.alloc_eq_grow]; rfl⟩
  simp [IntKind.wrap, IntKind.bits, IntKind.signed]
  omega
theorem size_any (a b : Int) (w : World) (ha : -9223372036854775808 ≤ a) (hb : b ≤ 9223372036854775807) (hab : a ≤ b) : Calls Try.prog 46 #[.agg #[iv a, iv b]] w fun e w' => e = .returned (.int .u64 (b - a)) ∧ Below w.heap.size w w' :=
  (size_gr a b w ha hb hab).mono fun _ _ ⟨he, q, os, hw⟩ => ⟨he, hw ▸ grow_below w q os⟩

theorem isNaN_any (a : Int) (w : World) : Calls Try.prog 57 #[iv a] w fun e w' => e = .returned (.bool false) ∧ w' = w := by
  go_enter Try.func57, Try.ntmps57
  go_wp2
  go_ret
  exact ⟨by simp, rfl⟩

def cmpZ (a b : Int) : Int := if a < b then -1 else if b < a then 1 else 0
theorem cmp_any (a b : Int) (w : World) : Calls Try.prog 41 #[iv a, iv b] w fun e w' => e = .returned (iv (cmpZ a b)) ∧ w' = w := by
  have hn := fun x W => isNaN_any x W
  unfold cmpZ
  by_cases h1 : a < b
  · rw [if_pos h1]
    go_enter Try.func41, Try.ntmps41
    go_wp2_with (go_at_call 57; refine (hn _ _).mono ?_; rintro e w' ⟨rfl, rfl⟩)
    go_ret
    exact ⟨rfl, rfl⟩
  · rw [if_neg h1]
    by_cases h2 : b < a
    · rw [if_pos h2]
      go_enter Try.func41, Try.ntmps41
      go_wp2_with (go_at_call 57; refine (hn _ _).mono ?_; rintro e w' ⟨rfl, rfl⟩)
      go_ret
      exact ⟨rfl, rfl⟩
    · rw [if_neg h2]
      go_enter Try.func41, Try.ntmps41
      go_wp2_with (go_at_call 57; refine (hn _ _).mono ?_; rintro e w' ⟨rfl, rfl⟩)
      go_ret
      exact ⟨rfl, rfl⟩

theorem either_any (a b : Bool) (w : World) : Calls Try.prog 49 #[.agg #[.bool a, .bool b]] w fun e w' => e = .returned (.bool (a || b)) ∧ Below w.heap.size w w' := by
  cases a <;> cases b <;>
  (go_enter Try.func49, Try.ntmps49
   go_wp2
   go_ret
   exact ⟨rfl, (Below.refl _ w).alloc (Nat.le_refl _) _⟩)
theorem both_any (a b : Bool) (w : World) : Calls Try.prog 50 #[.agg #[.bool a, .bool b]] w fun e w' => e = .returned (.bool (a && b)) ∧ Below w.heap.size w w' := by
  cases a <;> cases b <;>
  (go_enter Try.func50, Try.ntmps50
   go_wp2
   go_ret
   exact ⟨rfl, (Below.refl _ w).alloc (Nat.le_refl _) _⟩)
theorem first_any (a b : Bool) (w : World) : Calls Try.prog 51 #[.agg #[.bool a, .bool b]] w fun e w' => e = .returned (.bool (a && !b)) ∧ Below w.heap.size w w' := by
  cases a <;> cases b <;>
  (go_enter Try.func51, Try.ntmps51
   go_wp2
   go_ret
   exact ⟨rfl, (Below.refl _ w).alloc (Nat.le_refl _) _⟩)
end Go.Proofs.Ytjocgipjmcnjfaa
