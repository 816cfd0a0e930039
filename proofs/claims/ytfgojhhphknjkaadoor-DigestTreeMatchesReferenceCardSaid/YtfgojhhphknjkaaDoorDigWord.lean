/- Rotations, and words of 32 bits in the walk's spelling. -/
import Derived.Test.YtfgojhhphknjkaaDoorRows
import Derived.Test.YtfgojhhphknjkaaDoorDigSha
import Derived.WalkKit
import Derived.WalkSpells
import Derived.WalkLawsBesides
import Derived.Lib.Hide
import Derived.Below
import Derived.Laws.Cells
import Derived.Laws.Rows
import Derived.Laws.Tables
namespace Go.Proofs.YtfgojhhphknjkaaDoor
open Go.RowKit

theorem ret_int {k : IntKind} {a b : Int} (h : a = b) : Ending.returned (.int k a) = .returned (.int k b) := by rw [h]

theorem rotr_lt {x n : Nat} (hx : x < 4294967296) : rotr x n < 4294967296 :=
  Nat.or_lt_two_pow (n := 32) (Nat.mod_lt _ (by decide)) (Nat.lt_of_le_of_lt (Nat.div_le_self _ _) hx)

set_option maxHeartbeats 400000 in
theorem rotl_any (x n : Nat) (hx : x < 4294967296) (h1 : 1 ≤ n) (h2 : n ≤ 31) (w : World) :
    Calls Tryd.prog 60 #[.int .u32 x, .int .i64 (-(n : Int))] w fun e w' => e = .returned (.int .u32 (rotr x n : Nat)) ∧ w = w' := by
  obtain ⟨m, hm, hmn⟩ : ∃ m : Nat, bits .and .u64 (IntKind.u64.wrap (-(n : Int))) 31 = (m : Int) ∧ m + n = 32 := by
    refine ⟨32 - n, ?_, by omega⟩
    rw [IntKind.wrap_u64, u64_and _ _ (by omega) (by omega) (by omega) (by omega)]
    rw [show (31 : Int).toNat = 2 ^ 5 - 1 from rfl, Nat.and_two_pow_sub_one_eq_mod]
    omega
  go_enter Tryd.func60, Tryd.ntmps60
  go_wp2
  go_ret
  refine ⟨ret_int ?_, rfl⟩
  obtain rfl : m = 32 - n := by omega
  rw [show 32 - (32 - n) = n by omega, show ((x : Int) * 2 ^ (32 - n) % 4294967296) = ((x * 2 ^ (32 - n) % 4294967296 : Nat) : Int) by rw [Int.natCast_emod, Int.natCast_mul, Int.natCast_pow]; rfl, show ((x : Int) / 2 ^ n) = ((x / 2 ^ n : Nat) : Int) by rw [Int.natCast_ediv, Int.natCast_pow]; rfl]
  exact u32_or_nat _ _ (Nat.mod_lt _ (by decide)) (Nat.lt_of_le_of_lt (Nat.div_le_self _ _) hx)

set_option maxHeartbeats 400000 in
theorem turned_any (x n : Nat) (hx : x < 4294967296) (h1 : 1 ≤ n) (h2 : n ≤ 31) (w : World) :
    Calls Tryd.prog 59 #[.int .u32 x, .int .i64 n] w fun e w' => e = .returned (.int .u32 (rotr x n : Nat)) ∧ w = w' := by
  go_enter Tryd.func59, Tryd.ntmps59
  go_wp2_with (go_at_call 60; refine (rotl_any x n hx h1 h2 _).mono ?_; rintro e w' ⟨rfl, rfl⟩)
  go_ret
  exact ⟨rfl, rfl⟩

/-! ### Arrays in blocks of their own -/
def Arr (W : World) (B : Nat) (t : TypeId) (vs : List Value) : Prop := W.heap[B]? = some (.cells vs.toArray t (0, 0))

theorem Arr.cell {W : World} {B : Nat} {t : TypeId} {vs : List Value} (h : Arr W B t vs) {i : Nat} {v : Value} (hv : vs[i]? = some v) : W.cell? ⟨B, i, none⟩ = some v := by
  rw [cell_of_row _ _ i _ t (0, 0) h]
  simpa using hv
theorem Arr.below {W W' : World} {B n : Nat} {t : TypeId} {vs : List Value} (h : Arr W B t vs) (hb : Below n W W') (hB : B < n) : Arr W' B t vs := (hb.block B hB).trans h
theorem Arr.lt {W : World} {B : Nat} {t : TypeId} {vs : List Value} (h : Arr W B t vs) : B < W.heap.size := (Array.getElem?_eq_some_iff.1 h).1
theorem Arr.alloc {W : World} {B : Nat} {t : TypeId} {vs : List Value} (h : Arr W B t vs) (o : Obj) : Arr (W.alloc o) B t vs := (Below.heap_alloc _ _ _ h.lt).trans h
theorem Arr.new (W : World) (t : TypeId) (vs : List Value) : Arr (W.alloc (.cells vs.toArray t)) W.heap.size t vs := heap_alloc_new W _
theorem Arr.new' {W : World} {n : Nat} (t : TypeId) (vs : List Value) (hn : n = W.heap.size) : Arr (W.alloc (.cells vs.toArray t)) n t vs := hn ▸ heap_alloc_new W _
theorem Arr.frozen {W : World} {B : Nat} {t : TypeId} {vs : List Value} (h : Arr W B t vs) (i : Nat) : W.frozen? ⟨B, i, none⟩ = false := by
  unfold World.frozen?
  rw [h]
  simp
theorem Arr.drew {W : World} {B : Nat} {t : TypeId} {vs : List Value} (h : Arr W B t vs) : Arr W.drew B t vs := h

theorem Arr.set {W : World} {B : Nat} {t : TypeId} {vs : List Value} (h : Arr W B t vs) (i : Nat) (v : Value) : Arr (W.setCell ⟨B, i, none⟩ v) B t (vs.set i v) := by
  have := heap_setCell_same W B i _ t v h
  unfold Arr
  rw [this]; simp
theorem Arr.set_other {W : World} {B C : Nat} {t : TypeId} {vs : List Value} (h : Arr W B t vs) (i : Nat) (v : Value) (hne : C ≠ B) : Arr (W.setCell ⟨C, i, none⟩ v) B t vs := by
  unfold Arr World.setCell
  simp [Array.getElem?_modify, hne]
  exact h

theorem Arr.row {W : World} {B : Nat} {t : TypeId} {vs : List Value} (h : Arr W B t vs) (us : List Value) : Arr (W.setRow B us.toArray) B t us := setRow_heap _ _ _ _ _ _ h
theorem Arr.row_other {W : World} {B C : Nat} {t : TypeId} {vs : List Value} (h : Arr W B t vs) (us : Array Value) (hne : C ≠ B) : Arr (W.setRow C us) B t vs := (setRow_other _ _ _ _ (Ne.symm hne)).trans h
theorem below_setRow {n C : Nat} {w W : World} (h : Below n w W) (hC : n ≤ C) (us : Array Value) : Below n w (W.setRow C us) :=
  h.trans ⟨rfl, rfl, rfl, by simp, fun k hk => setRow_other _ _ _ _ (by omega)⟩

theorem Arr.load {P : Program} {W : World} {B : Nat} {t : TypeId} {vs : List Value} (h : Arr W B t vs) {n : Nat} (hn : vs.length = n) :
    (loadCellsFrom ⟨B, 0, none⟩ 0 n #[]).run P W = .ok vs.toArray W := by
  subst hn
  have := run_loadCells_list (P := P) W ⟨B, 0, none⟩ vs (fun j v hv => by
    have hadd : (⟨B, 0, none⟩ : Addr).add j = ⟨B, j, none⟩ := by unfold Addr.add; split <;> simp_all
    rw [hadd]; exact h.cell hv)
  simpa [loadCells] using this

theorem Arr.store {P : Program} {W : World} {B : Nat} {t : TypeId} {vs : List Value} (h : Arr W B t vs) (out : Array Value) (hi : (P.info? t).map (·.size) = some out.size) (hs : vs.toArray.size = out.size) (h1 : out.all (·.oneCell') = true) :
    (storeCells ⟨B, 0, none⟩ out.toList 0).run P W = .ok () (W.setRow B out) := by
  have := run_storeVar_row (P := P) W B t t vs.toArray out h hi hs h1
  cases hq : P.info? t with
  | none => simp [hq] at hi
  | some i =>
    have hs : out.size = i.size := by simp [hq] at hi; omega
    simpa [storeVar, sizeOf, typeInfo, hq, Value.cells, hs] using this

/-- A store of a whole array: the world behind it by what is known of it. -/
theorem wpList_store_abs {P : Program} {ops : Array Oper} {rest : List Oper} {o : Oper} {a : Act} {w : World} {Q : Exit → Act → World → Prop} (hgd : o.guard = none) (ty : TypeId) (x y : Operand) (ho : o.op = .store ty x y)
    (g : Nat) (cells : Array Value) (hx : a.eval x = .pointer (some ⟨g, 0, none⟩)) (hy : a.eval y = .agg cells)
    (t : TypeId) (old : Array Value) (hg : w.heap[g]? = some (.cells old t (0, 0))) (hi : (P.info? ty).map (·.size) = some cells.size)
    (hold : old.size = cells.size) (h1 : cells.all (·.oneCell') = true)
    (h : ∀ W, W.heap[g]? = some (.cells cells t (0, 0)) → Below g w W → (∀ k, k ≠ g → W.heap[k]? = w.heap[k]?) → wpList P ops Q rest (a.put o.dst undef) W) : wpList P ops Q (o :: rest) a w :=
  wpList_store_row hgd ty x y ho g cells hx hy t old hg hi hold h1 (h _ (setRow_heap _ _ _ _ _ _ hg) (below_setRow (Below.refl _ _) (Nat.le_refl _) _) (fun k hk => setRow_other _ _ _ _ hk))

def u8s (l : List Nat) : List Value := l.map fun x : Nat => .int .u8 (x : Int)
def u32s (l : List Nat) : List Value := l.map fun x : Nat => .int .u32 (x : Int)
theorem u32s_one (l : List Nat) : (u32s l).toArray.all (·.oneCell') = true := by simp [u32s, Value.oneCell']
theorem u8s_one (l : List Nat) : (u8s l).toArray.all (·.oneCell') = true := by simp [u8s, Value.oneCell']
theorem u32s_len (l : List Nat) : (u32s l).length = l.length := by simp [u32s]
theorem u8s_len (l : List Nat) : (u8s l).length = l.length := by simp [u8s]
theorem u32s_get {l : List Nat} {i : Nat} (h : i < l.length) : (u32s l)[i]? = some (.int .u32 ((l.getD i 0 : Nat) : Int)) := by
  simp [u32s, List.getElem?_eq_getElem h, List.getD_eq_getElem?_getD]
theorem u8s_get {l : List Nat} {i : Nat} (h : i < l.length) : (u8s l)[i]? = some (.int .u8 ((l.getD i 0 : Nat) : Int)) := by
  simp [u8s, List.getElem?_eq_getElem h, List.getD_eq_getElem?_getD]
theorem getD_lt {l : List Nat} {n : Nat} (h : ∀ x ∈ l, x < n) (hn : 0 < n) (i : Nat) : l.getD i 0 < n := by
  rw [List.getD_eq_getElem?_getD]
  cases hi : l[i]? with
  | none => exact hn
  | some x => exact h x (List.mem_of_getElem? hi)
theorem set_snoc (l : List Nat) (n : Nat) (i : Nat) (hi : i = l.length) (x : Nat) : (u32s (l ++ List.replicate (n + 1) 0)).set i (.int .u32 (x : Int)) = u32s (l ++ [x] ++ List.replicate n 0) := by
  subst hi
  simp [u32s, List.replicate_succ]
theorem wordsR_len (b : List Nat) : ∀ n, (wordsR b n).length = n
  | 0 => rfl
  | n + 1 => by simp [wordsR, wordsR_len b n]
theorem wordAt_lt {b : List Nat} (hb : ∀ x ∈ b, x < 256) (i : Nat) : wordAt b i < 4294967296 := by
  have h0 := getD_lt hb (by decide) (4 * i)
  have h1 := getD_lt hb (by decide) (4 * i + 1)
  have h2 := getD_lt hb (by decide) (4 * i + 2)
  have h3 := getD_lt hb (by decide) (4 * i + 3)
  exact Nat.or_lt_two_pow (n := 32) (Nat.or_lt_two_pow (n := 32) (Nat.or_lt_two_pow (n := 32) (by omega) (by omega)) (by omega)) (by omega)
theorem wordsR_lt {b : List Nat} (hb : ∀ x ∈ b, x < 256) : ∀ n, ∀ x ∈ wordsR b n, x < 4294967296
  | 0 => by simp [wordsR]
  | n + 1 => by
    intro x hx
    simp only [wordsR, List.mem_cons] at hx
    rcases hx with rfl | hx
    · split
      · exact wordAt_lt hb n
      · exact Nat.mod_lt _ (by decide)
    · exact wordsR_lt hb n x hx
end Go.Proofs.YtfgojhhphknjkaaDoor
