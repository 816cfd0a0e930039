/- Blocks, boxes and the small functions of calendar. -/
import Derived.Test.YtejohdmbnnlhjaaRows
import Derived.Test.YtejohdmbnnlhjaaCalMath
import Derived.WalkKit
import Derived.WalkSpells
import Derived.WalkLawsBesides
import Derived.Lib.Hide
import Derived.Below
import Derived.Laws.Cells
import Derived.Laws.Rows
import Derived.Laws.Tables
import Derived.RangeFuncNested
import Derived.RangeFuncBound
import Derived.RangeFuncCalls
import Derived.RangeFuncLeaves
import Derived.RangeFuncBox
import Derived.RangeFuncWrites
import Derived.Shelf.Abstract
import Derived.Shelf.RegionOpen
import Derived.OwnWalkIn
import Derived.TacticsInMore
import Derived.LoopNIn
import Derived.LoopIn
import Derived.Lib.BufferWrite
import Derived.Laws.MakeOwn
import Derived.Laws.AppendOwn
import Derived.Laws.OwnMore
import Derived.Maps.AppendAt
import Derived.Deep.QuietTactic
import Derived.BigQuiet
namespace Go.Proofs.Ytejohdmbnnlhjaa
open Go.RowKit

abbrev iv (n : Int) : Value := .int .i64 n
theorem w64 {n : Int} (h1 : -9223372036854775808 ≤ n) (h2 : n ≤ 9223372036854775807) : IntKind.i64.wrap n = n := by
  rw [IntKind.wrap_i64]; omega
theorem ret_int {k : IntKind} {a b : Int} (h : a = b) : Ending.returned (.int k a) = .returned (.int k b) := by rw [h]
theorem bthen {a b c : World} (h : Below a.heap.size a b) (k : Below b.heap.size b c) : Below a.heap.size a c := h.trans (k.mono h.size)
theorem bcell {W w1 : World} (hb : Below W.heap.size W w1) : (∀ b o, b < W.heap.size → w1.cell? ⟨b, o, none⟩ = W.cell? ⟨b, o, none⟩) ∧ (∀ b o, b < W.heap.size → w1.frozen? ⟨b, o, none⟩ = W.frozen? ⟨b, o, none⟩) :=
  ⟨fun b o h => hb.cell (p := ⟨b, o, none⟩) h, fun b o h => hb.frozen (p := ⟨b, o, none⟩) h⟩

/-! ### Arrays in blocks of their own -/
def Arr (W : World) (B : Nat) (t : TypeId) (vs : List Value) : Prop := W.heap[B]? = some (.cells vs.toArray t (0, 0))

theorem Arr.cell {W : World} {B : Nat} {t : TypeId} {vs : List Value} (h : Arr W B t vs) {i : Nat} {v : Value} (hv : vs[i]? = some v) : W.cell? ⟨B, i, none⟩ = some v := by
  rw [cell_of_row _ _ i _ t (0, 0) h]
  simpa using hv
theorem Arr.below {W W' : World} {B n : Nat} {t : TypeId} {vs : List Value} (h : Arr W B t vs) (hb : Below n W W') (hB : B < n) : Arr W' B t vs := (hb.block B hB).trans h
theorem Arr.lt {W : World} {B : Nat} {t : TypeId} {vs : List Value} (h : Arr W B t vs) : B < W.heap.size := (Array.getElem?_eq_some_iff.1 h).1
theorem Arr.alloc {W : World} {B : Nat} {t : TypeId} {vs : List Value} (h : Arr W B t vs) (o : Obj) : Arr (W.alloc o) B t vs := (Below.heap_alloc _ _ _ h.lt).trans h
theorem Arr.new (W : World) (t : TypeId) (vs : List Value) : Arr (W.alloc (.cells vs.toArray t)) W.heap.size t vs := heap_alloc_new W _
theorem Arr.new' {W : World} {n : Nat} (t : TypeId) (vs : List Value) (hn : n = W.heap.size) : Arr (W.alloc (.cells vs.toArray t)) n t vs := hn ▸ heap_alloc_new W _
theorem Arr.frozen {W : World} {B : Nat} {t : TypeId} {vs : List Value} (h : Arr W B t vs) (i : Nat) : W.frozen? ⟨B, i, none⟩ = false := by
  unfold World.frozen?
  rw [h]
  simp
theorem Arr.drew {W : World} {B : Nat} {t : TypeId} {vs : List Value} (h : Arr W B t vs) : Arr W.drew B t vs := h

theorem Arr.set {W : World} {B : Nat} {t : TypeId} {vs : List Value} (h : Arr W B t vs) (i : Nat) (v : Value) : Arr (W.setCell ⟨B, i, none⟩ v) B t (vs.set i v) := by
  have := heap_setCell_same W B i _ t v h
  unfold Arr
  rw [this]; simp
theorem Arr.set_other {W : World} {B C : Nat} {t : TypeId} {vs : List Value} (h : Arr W B t vs) (i : Nat) (v : Value) (hne : C ≠ B) : Arr (W.setCell ⟨C, i, none⟩ v) B t vs := by
  unfold Arr World.setCell
  simp [Array.getElem?_modify, hne]
  exact h

theorem Arr.row {W : World} {B : Nat} {t : TypeId} {vs : List Value} (h : Arr W B t vs) (us : List Value) : Arr (W.setRow B us.toArray) B t us := setRow_heap _ _ _ _ _ _ h
theorem Arr.row_other {W : World} {B C : Nat} {t : TypeId} {vs : List Value} (h : Arr W B t vs) (us : Array Value) (hne : C ≠ B) : Arr (W.setRow C us) B t vs := (setRow_other _ _ _ _ (Ne.symm hne)).trans h
theorem below_setRow {n C : Nat} {w W : World} (h : Below n w W) (hC : n ≤ C) (us : Array Value) : Below n w (W.setRow C us) :=
  h.trans ⟨rfl, rfl, rfl, by simp, fun k hk => setRow_other _ _ _ _ (by omega)⟩

theorem Arr.load {P : Program} {W : World} {B : Nat} {t : TypeId} {vs : List Value} (h : Arr W B t vs) {n : Nat} (hn : vs.length = n) :
    (loadCellsFrom ⟨B, 0, none⟩ 0 n #[]).run P W = .ok vs.toArray W := by
  subst hn
  have := run_loadCells_list (P := P) W ⟨B, 0, none⟩ vs (fun j v hv => by
    have hadd : (⟨B, 0, none⟩ : Addr).add j = ⟨B, j, none⟩ := by unfold Addr.add; split <;> simp_all
    rw [hadd]; exact h.cell hv)
  simpa [loadCells] using this

theorem Arr.store {P : Program} {W : World} {B : Nat} {t : TypeId} {vs : List Value} (h : Arr W B t vs) (out : Array Value) (hi : (P.info? t).map (·.size) = some out.size) (hs : vs.toArray.size = out.size) (h1 : out.all (·.oneCell') = true) :
    (storeCells ⟨B, 0, none⟩ out.toList 0).run P W = .ok () (W.setRow B out) := by
  have := run_storeVar_row (P := P) W B t t vs.toArray out h hi hs h1
  cases hq : P.info? t with
  | none => simp [hq] at hi
  | some i =>
    have hs : out.size = i.size := by simp [hq] at hi; omega
    simpa [storeVar, sizeOf, typeInfo, hq, Value.cells, hs] using this

/-- A store of a whole array: the world behind it by what is known of it. -/
theorem wpList_store_abs {P : Program} {ops : Array Oper} {rest : List Oper} {o : Oper} {a : Act} {w : World} {Q : Exit → Act → World → Prop} (hgd : o.guard = none) (ty : TypeId) (x y : Operand) (ho : o.op = .store ty x y)
    (g : Nat) (cells : Array Value) (hx : a.eval x = .pointer (some ⟨g, 0, none⟩)) (hy : a.eval y = .agg cells)
    (t : TypeId) (old : Array Value) (hg : w.heap[g]? = some (.cells old t (0, 0))) (hi : (P.info? ty).map (·.size) = some cells.size)
    (hold : old.size = cells.size) (h1 : cells.all (·.oneCell') = true)
    (h : ∀ W, W.heap[g]? = some (.cells cells t (0, 0)) → Below g w W → (∀ k, k ≠ g → W.heap[k]? = w.heap[k]?) → wpList P ops Q rest (a.put o.dst undef) W) : wpList P ops Q (o :: rest) a w :=
  wpList_store_row hgd ty x y ho g cells hx hy t old hg hi hold h1 (h _ (setRow_heap _ _ _ _ _ _ hg) (below_setRow (Below.refl _ _) (Nat.le_refl _) _) (fun k hk => setRow_other _ _ _ _ hk))


theorem isOffset_any (n : Int) (w : World) :
    Calls Try.prog 29 #[.int .i64 n] w fun e w' => e = .returned (.bool (okOff n)) ∧ w = w' := by
  go_enter Try.func29, Try.ntmps29
  go_wp2
  all_goals (go_ret; exact ⟨by congr 2; simp [okOff, okSec, okSod]; first | omega | (simp_all <;> omega), rfl⟩)

theorem isSecond_any (n : Int) (w : World) :
    Calls Try.prog 25 #[.int .i64 n] w fun e w' => e = .returned (.bool (okSec n)) ∧ w = w' := by
  go_enter Try.func25, Try.ntmps25
  go_wp2
  all_goals (go_ret; exact ⟨by congr 2; simp [okOff, okSec, okSod]; first | omega | (simp_all <;> omega), rfl⟩)

theorem isSod_any (n : Int) (w : World) :
    Calls Try.prog 32 #[.int .i64 n] w fun e w' => e = .returned (.bool (okSod n)) ∧ w = w' := by
  go_enter Try.func32, Try.ntmps32
  go_wp2
  all_goals (go_ret; exact ⟨by congr 2; simp [okOff, okSec, okSod]; first | omega | (simp_all <;> omega), rfl⟩)

theorem rest_any (n : Int) (w : World) :
    Calls Try.prog 27 #[.int .i64 n] w fun e w' => e = .returned (.int .i64 (n % 86400)) ∧ w = w' := by
  obtain ⟨t, ht⟩ : ∃ t, n.tmod 86400 = t := ⟨_, rfl⟩
  have h1 : t + 86400 = t + 86400 := rfl
  have hb : -86400 < t ∧ t < 86400 ∧ (t + 86400) % 86400 = n % 86400 := by
    rw [← ht, Int.tmod_eq_emod]; split <;> simp <;> omega
  have e1 : IntKind.i64.wrap t = t := w64 (by omega) (by omega)
  have h0 : 0 ≤ t + 86400 := by omega
  have hu : t + 86400 ≤ 172800 := by omega
  have hr : (t + 86400) % 86400 = n % 86400 := hb.2.2
  have hl : -86400 < t := by omega
  have hg : t < 86400 := by omega
  clear hb h1
  go_enter Try.func27, Try.ntmps27
  go_wp2
  go_ret
  exact ⟨ret_int hr, rfl⟩
end Go.Proofs.Ytejohdmbnnlhjaa
