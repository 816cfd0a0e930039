/- Contracts of the small functions of timecode. -/
import Derived.Test.YtfpmmfoinjcclaaDoorRows
import Derived.Test.YtfpmmfoinjcclaaDoorTcMath
import Derived.WalkKit
import Derived.WalkSpells
import Derived.WalkLawsBesides
import Derived.Lib.Hide
import Derived.Below
import Derived.Laws.Cells
import Derived.Laws.Rows
import Derived.Laws.Tables
namespace Go.Proofs.YtfpmmfoinjcclaaDoor
open Go.RowKit

theorem ret_int {k : IntKind} {a b : Int} (h : a = b) : Ending.returned (.int k a) = .returned (.int k b) := by rw [h]
theorem bthen {a b c : World} (h : Below a.heap.size a b) (k : Below b.heap.size b c) : Below a.heap.size a c := h.trans (k.mono h.size)
theorem bcell {W w1 : World} (hb : Below W.heap.size W w1) : (∀ b o, b < W.heap.size → w1.cell? ⟨b, o, none⟩ = W.cell? ⟨b, o, none⟩) ∧ (∀ b o, b < W.heap.size → w1.frozen? ⟨b, o, none⟩ = W.frozen? ⟨b, o, none⟩) :=
  ⟨fun b o h => hb.cell (p := ⟨b, o, none⟩) h, fun b o h => hb.frozen (p := ⟨b, o, none⟩) h⟩

/-! ### Arrays in blocks of their own -/
def Arr (W : World) (B : Nat) (t : TypeId) (vs : List Value) : Prop := W.heap[B]? = some (.cells vs.toArray t (0, 0))

theorem Arr.cell {W : World} {B : Nat} {t : TypeId} {vs : List Value} (h : Arr W B t vs) {i : Nat} {v : Value} (hv : vs[i]? = some v) : W.cell? ⟨B, i, none⟩ = some v := by
  rw [cell_of_row _ _ i _ t (0, 0) h]
  simpa using hv
theorem Arr.below {W W' : World} {B n : Nat} {t : TypeId} {vs : List Value} (h : Arr W B t vs) (hb : Below n W W') (hB : B < n) : Arr W' B t vs := (hb.block B hB).trans h
theorem Arr.lt {W : World} {B : Nat} {t : TypeId} {vs : List Value} (h : Arr W B t vs) : B < W.heap.size := (Array.getElem?_eq_some_iff.1 h).1
theorem Arr.alloc {W : World} {B : Nat} {t : TypeId} {vs : List Value} (h : Arr W B t vs) (o : Obj) : Arr (W.alloc o) B t vs := (Below.heap_alloc _ _ _ h.lt).trans h
theorem Arr.new (W : World) (t : TypeId) (vs : List Value) : Arr (W.alloc (.cells vs.toArray t)) W.heap.size t vs := heap_alloc_new W _
theorem Arr.new' {W : World} {n : Nat} (t : TypeId) (vs : List Value) (hn : n = W.heap.size) : Arr (W.alloc (.cells vs.toArray t)) n t vs := hn ▸ heap_alloc_new W _
theorem Arr.frozen {W : World} {B : Nat} {t : TypeId} {vs : List Value} (h : Arr W B t vs) (i : Nat) : W.frozen? ⟨B, i, none⟩ = false := by
  unfold World.frozen?
  rw [h]
  simp
theorem Arr.drew {W : World} {B : Nat} {t : TypeId} {vs : List Value} (h : Arr W B t vs) : Arr W.drew B t vs := h

theorem Arr.set {W : World} {B : Nat} {t : TypeId} {vs : List Value} (h : Arr W B t vs) (i : Nat) (v : Value) : Arr (W.setCell ⟨B, i, none⟩ v) B t (vs.set i v) := by
  have := heap_setCell_same W B i _ t v h
  unfold Arr
  rw [this]; simp
theorem Arr.set_other {W : World} {B C : Nat} {t : TypeId} {vs : List Value} (h : Arr W B t vs) (i : Nat) (v : Value) (hne : C ≠ B) : Arr (W.setCell ⟨C, i, none⟩ v) B t vs := by
  unfold Arr World.setCell
  simp [Array.getElem?_modify, hne]
  exact h

theorem Arr.row {W : World} {B : Nat} {t : TypeId} {vs : List Value} (h : Arr W B t vs) (us : List Value) : Arr (W.setRow B us.toArray) B t us := setRow_heap _ _ _ _ _ _ h
theorem Arr.row_other {W : World} {B C : Nat} {t : TypeId} {vs : List Value} (h : Arr W B t vs) (us : Array Value) (hne : C ≠ B) : Arr (W.setRow C us) B t vs := (setRow_other _ _ _ _ (Ne.symm hne)).trans h
theorem below_setRow {n C : Nat} {w W : World} (h : Below n w W) (hC : n ≤ C) (us : Array Value) : Below n w (W.setRow C us) :=
  h.trans ⟨rfl, rfl, rfl, by simp, fun k hk => setRow_other _ _ _ _ (by omega)⟩

theorem Arr.load {P : Program} {W : World} {B : Nat} {t : TypeId} {vs : List Value} (h : Arr W B t vs) {n : Nat} (hn : vs.length = n) :
    (loadCellsFrom ⟨B, 0, none⟩ 0 n #[]).run P W = .ok vs.toArray W := by
  subst hn
  have := run_loadCells_list (P := P) W ⟨B, 0, none⟩ vs (fun j v hv => by
    have hadd : (⟨B, 0, none⟩ : Addr).add j = ⟨B, j, none⟩ := by unfold Addr.add; split <;> simp_all
    rw [hadd]; exact h.cell hv)
  simpa [loadCells] using this

theorem Arr.store {P : Program} {W : World} {B : Nat} {t : TypeId} {vs : List Value} (h : Arr W B t vs) (out : Array Value) (hi : (P.info? t).map (·.size) = some out.size) (hs : vs.toArray.size = out.size) (h1 : out.all (·.oneCell') = true) :
    (storeCells ⟨B, 0, none⟩ out.toList 0).run P W = .ok () (W.setRow B out) := by
  have := run_storeVar_row (P := P) W B t t vs.toArray out h hi hs h1
  cases hq : P.info? t with
  | none => simp [hq] at hi
  | some i =>
    have hs : out.size = i.size := by simp [hq] at hi; omega
    simpa [storeVar, sizeOf, typeInfo, hq, Value.cells, hs] using this

/-- A store of a whole array: the world behind it by what is known of it. -/
theorem wpList_store_abs {P : Program} {ops : Array Oper} {rest : List Oper} {o : Oper} {a : Act} {w : World} {Q : Exit → Act → World → Prop} (hgd : o.guard = none) (ty : TypeId) (x y : Operand) (ho : o.op = .store ty x y)
    (g : Nat) (cells : Array Value) (hx : a.eval x = .pointer (some ⟨g, 0, none⟩)) (hy : a.eval y = .agg cells)
    (t : TypeId) (old : Array Value) (hg : w.heap[g]? = some (.cells old t (0, 0))) (hi : (P.info? ty).map (·.size) = some cells.size)
    (hold : old.size = cells.size) (h1 : cells.all (·.oneCell') = true)
    (h : ∀ W, W.heap[g]? = some (.cells cells t (0, 0)) → Below g w W → (∀ k, k ≠ g → W.heap[k]? = w.heap[k]?) → wpList P ops Q rest (a.put o.dst undef) W) : wpList P ops Q (o :: rest) a w :=
  wpList_store_row hgd ty x y ho g cells hx hy t old hg hi hold h1 (h _ (setRow_heap _ _ _ _ _ _ hg) (below_setRow (Below.refl _ _) (Nat.le_refl _) _) (fun k hk => setRow_other _ _ _ _ hk))

abbrev iv (n : Int) : Value := .int .i64 n
def fmtRow (x : Rt) : List Value := [iv x.num, iv x.den, iv x.base, iv x.drop]
def fmtV : List Value := rtL.flatMap fmtRow
/-- The table of rates lies in memory. -/
def FmtAt (W : World) : Prop := ∃ t fr, W.heap[0]? = some (.cells fmtV.toArray t fr)
theorem FmtAt.lt {W : World} (h : FmtAt W) : 0 < W.heap.size := by
  obtain ⟨t, fr, h⟩ := h
  exact (Array.getElem?_eq_some_iff.1 h).1
theorem FmtAt.below {W W' : World} (h : FmtAt W) (hb : Below W.heap.size W W') : FmtAt W' := by
  have hl := h.lt
  obtain ⟨t, fr, h⟩ := h
  exact ⟨t, fr, (hb.block _ hl).trans h⟩

def Rt.val (x : Rt) : Value := .agg #[iv x.num, iv x.den]
def Rt.row (x : Rt) : Value := .agg #[iv x.num, iv x.den, iv x.base, iv x.drop]

def rtAt (k : Nat) : Rt := rtL.getD k ⟨0, 0, 0, 0⟩
theorem rtAt_mem {k : Nat} (h : k < 8) : rtAt k ∈ rtL := by
  match k, h with
  | 0, _ | 1, _ | 2, _ | 3, _ | 4, _ | 5, _ | 6, _ | 7, _ => decide
set_option maxRecDepth 100000 in
theorem idx_fmt {k : Nat} (hk : k < 8) (W : World) : Sem.run Tryd.prog (Instr.index 66 (.agg fmtV.toArray) (.int .i64 k)) W = .ok (rtAt k).row W := by
  match k, hk with
  | 0, _ | 1, _ | 2, _ | 3, _ | 4, _ | 5, _ | 6, _ | 7, _ => first | rfl | kernel_rfl

set_option maxRecDepth 100000 in
set_option maxHeartbeats 1000000 in
theorem find_no (a b : Int) (w : World) (hF : FmtAt w) (h : ∀ x ∈ rtL, ¬ (a = x.num ∧ b = x.den)) :
    Calls Tryd.prog 37 #[.agg #[iv a, iv b]] w fun e w' => e = .returned (.tuple #[.agg #[iv 0, iv 0, iv 0, iv 0], .bool false]) ∧ Below w.heap.size w w' := by
  have hl := hF.lt
  obtain ⟨t, fr, hF⟩ := hF
  obtain ⟨arr, harr⟩ : ∃ arr, arr = fmtV.toArray := ⟨_, rfl⟩
  rw [← harr] at hF
  have hi : (Tryd.prog.info? 66).map (·.size) = some arr.size := by rw [harr]; kernel_rfl
  have HA := Lib.hid harr; clear harr
  have hB : ∀ o1 o2, ((w.alloc o1).alloc o2).heap[0]? = some (.cells arr t fr) := fun o1 o2 => ((((Below.refl _ _).alloc (Nat.le_refl _) o1).alloc (by simp) o2).block _ hl).trans hF
  go_enter Tryd.func37, Tryd.ntmps37
  go_wp2_with (refine wpList_load_row rfl 66 _ rfl 0 rfl t arr fr _ (hB _ _) Tryd.underlying66 rfl hi ?_)
  have hs2 : ∀ o1 o2, ((w.alloc o1).alloc o2).heap.size = w.heap.size + 2 := fun o1 o2 => by simp
  obtain ⟨W0, hW0, hb0, hsz, ka, kz⟩ : ∃ W0, (w.alloc (.cells #[iv a, iv b] 23)).alloc (.cells #[iv 0, iv 0, iv 0, iv 0] 54) = W0 ∧ Below w.heap.size w W0 ∧ W0.heap.size = w.heap.size + 2 ∧ Arr W0 w.heap.size 23 [iv a, iv b] ∧ Arr W0 (w.heap.size + 1) 54 [iv 0, iv 0, iv 0, iv 0] :=
    ⟨_, rfl, ((Below.refl _ _).alloc (Nat.le_refl _) _).alloc (by simp) _, by simp, (Arr.new w 23 [iv a, iv b]).alloc _, Arr.new' _ [iv 0, iv 0, iv 0, iv 0] (by simp)⟩
  rw [hW0]; clear hW0
  have k0 := ka.cell (i := 0) rfl
  have k1 := ka.cell (i := 1) rfl
  go_loopw [7] (fun i wr => ∃ k : Nat, i = .int .i64 k ∧ k ≤ 8 ∧ Below W0.heap.size W0 wr) (fun i _ => 8 - (intOf i).toNat)
  case atStart => exact ⟨0, rfl, by omega, Below.refl _ _⟩
  case round =>
    obtain ⟨k, rfl, hk, hB⟩ := hrel
    by_cases hk1 : k < 8
    · have hx := rtAt_mem hk1
      have hidx := fun W => idx_fmt hk1 W
      rw [← HA.out] at hidx
      have hne := h _ hx
      generalize rtAt k = x at *
      unfold Rt.row at hidx
      have hz : w.heap.size + 1 < wr.heap.size := by have := hB.size; omega
      have k0' := (hB.cell (p := ⟨w.heap.size, 0, none⟩) (by simp; omega)).trans k0
      have k1' := (hB.cell (p := ⟨w.heap.size, 1, none⟩) (by simp; omega)).trans k1
      have q0 : ∀ o, (wr.alloc o).cell? ⟨w.heap.size, 0, none⟩ = some (iv a) := fun o => ((hB.alloc hB.size o).cell (p := ⟨w.heap.size, 0, none⟩) (by simp; omega)).trans k0
      have q1 : ∀ o, (wr.alloc o).cell? ⟨w.heap.size, 1, none⟩ = some (iv b) := fun o => ((hB.alloc hB.size o).cell (p := ⟨w.heap.size, 1, none⟩) (by simp; omega)).trans k1
      go_wp2_with fail
      all_goals
        go_roundw
        case rel => exact ⟨k + 1, by go_num, by omega, hB.alloc hB.size _⟩
        case measure => simp [intOf]; omega
    · obtain rfl : k = 8 := by omega
      have hz : w.heap.size + 1 < wr.heap.size := by have := hB.size; omega
      have hk' := kz.below hB (by omega)
      have z0 := hk'.cell (i := 0) rfl
      have z1 := hk'.cell (i := 1) rfl
      have z2 := hk'.cell (i := 2) rfl
      have z3 := hk'.cell (i := 3) rfl
      have f0 := fun i => hk'.frozen i
      have hb2 : Below w.heap.size w wr := hb0.trans (hB.mono (by omega))
      go_wp2_with fail
      have kf := (((hk'.set 0 (iv 0)).set 1 (iv 0)).set 2 (iv 0)).set 3 (iv 0)
      have hbF := ((((hb2.setCell (p := ⟨w.heap.size + 1, 0, none⟩) (by simp) (iv 0)).setCell (p := ⟨w.heap.size + 1, 1, none⟩) (by simp) (iv 0)).setCell (p := ⟨w.heap.size + 1, 2, none⟩) (by simp) (iv 0)).setCell (p := ⟨w.heap.size + 1, 3, none⟩) (by simp) (iv 0))
      generalize (((wr.setCell ⟨w.heap.size + 1, 0, none⟩ (iv 0)).setCell ⟨w.heap.size + 1, 1, none⟩ (iv 0)).setCell ⟨w.heap.size + 1, 2, none⟩ (iv 0)).setCell ⟨w.heap.size + 1, 3, none⟩ (iv 0) = WF at *
      have e0 := kf.cell (i := 0) rfl
      have e1 := kf.cell (i := 1) rfl
      have e2 := kf.cell (i := 2) rfl
      have e3 := kf.cell (i := 3) rfl
      exact bodyPost_ret (v := .tuple #[.agg #[iv 0, iv 0, iv 0, iv 0], .bool false]) (by simp [results, Tryd.results37, go_sem, e0, e1, e2, e3]) rfl ⟨rfl, hbF⟩

theorem rtAt_inj {i j : Nat} (hi : i < 8) (hj : j < 8) (h : (rtAt i).num = (rtAt j).num ∧ (rtAt i).den = (rtAt j).den) : i = j := by
  have : ∀ i : Fin 8, ∀ j : Fin 8, (rtAt i).num = (rtAt j).num ∧ (rtAt i).den = (rtAt j).den → i = j := by decide
  have := this ⟨i, hi⟩ ⟨j, hj⟩ h
  simpa using this
theorem rt_at {x : Rt} (h : x ∈ rtL) : ∃ i, i < 8 ∧ x = rtAt i := by
  rcases rt_cases h with rfl | rfl | rfl | rfl | rfl | rfl | rfl | rfl
  · exact ⟨0, by decide, rfl⟩
  · exact ⟨1, by decide, rfl⟩
  · exact ⟨2, by decide, rfl⟩
  · exact ⟨3, by decide, rfl⟩
  · exact ⟨4, by decide, rfl⟩
  · exact ⟨5, by decide, rfl⟩
  · exact ⟨6, by decide, rfl⟩
  · exact ⟨7, by decide, rfl⟩

set_option maxRecDepth 100000 in
set_option maxHeartbeats 1000000 in
theorem find_ok (x : Rt) (hx : x ∈ rtL) (w : World) (hF : FmtAt w) :
    Calls Tryd.prog 37 #[x.val] w fun e w' => e = .returned (.tuple #[x.row, .bool true]) ∧ Below w.heap.size w w' := by
  obtain ⟨i, hi8, hxi⟩ := rt_at hx
  have hinj : ∀ k, k < i → ¬ ((x.num : Int) = (rtAt k).num ∧ (x.den : Int) = (rtAt k).den) := fun k hk hc => by
    have := rtAt_inj hi8 (show k < 8 by omega) (by rw [← hxi]; omega)
    omega
  have hidx := fun W => idx_fmt hi8 W
  rw [← hxi] at hidx
  clear hxi hx
  unfold Rt.val Rt.row at *
  generalize x.num = a at *
  generalize x.den = b at *
  generalize x.base = c at *
  generalize x.drop = d at *
  clear x
  have hl := hF.lt
  obtain ⟨t, fr, hF⟩ := hF
  obtain ⟨arr, harr⟩ : ∃ arr, arr = fmtV.toArray := ⟨_, rfl⟩
  rw [← harr] at hF hidx
  have hi : (Tryd.prog.info? 66).map (·.size) = some arr.size := by rw [harr]; kernel_rfl
  have HA := Lib.hid harr; clear harr
  have hB : ∀ o1 o2, ((w.alloc o1).alloc o2).heap[0]? = some (.cells arr t fr) := fun o1 o2 => ((((Below.refl _ _).alloc (Nat.le_refl _) o1).alloc (by simp) o2).block _ hl).trans hF
  go_enter Tryd.func37, Tryd.ntmps37
  go_wp2_with (refine wpList_load_row rfl 66 _ rfl 0 rfl t arr fr _ (hB _ _) Tryd.underlying66 rfl hi ?_)
  obtain ⟨W0, hW0, hb0, hsz, ka, kz⟩ : ∃ W0, (w.alloc (.cells #[iv a, iv b] 23)).alloc (.cells #[iv 0, iv 0, iv 0, iv 0] 54) = W0 ∧ Below w.heap.size w W0 ∧ W0.heap.size = w.heap.size + 2 ∧ Arr W0 w.heap.size 23 [iv a, iv b] ∧ Arr W0 (w.heap.size + 1) 54 [iv 0, iv 0, iv 0, iv 0] :=
    ⟨_, rfl, ((Below.refl _ _).alloc (Nat.le_refl _) _).alloc (by simp) _, by simp, (Arr.new w 23 [iv a, iv b]).alloc _, Arr.new' _ [iv 0, iv 0, iv 0, iv 0] (by simp)⟩
  rw [hW0]; clear hW0
  have k0 := ka.cell (i := 0) rfl
  have k1 := ka.cell (i := 1) rfl
  go_loopw [7] (fun j wr => ∃ k : Nat, j = .int .i64 k ∧ k ≤ i ∧ Below W0.heap.size W0 wr) (fun j _ => 8 - (intOf j).toNat)
  case atStart => exact ⟨0, rfl, by omega, Below.refl _ _⟩
  case round =>
    obtain ⟨k, rfl, hk, hB⟩ := hrel
    have hk8 : k < 8 := by omega
    have hz : w.heap.size + 1 < wr.heap.size := by have := hB.size; omega
    have q0 : ∀ o, (wr.alloc o).cell? ⟨w.heap.size, 0, none⟩ = some (iv a) := fun o => ((hB.alloc hB.size o).cell (p := ⟨w.heap.size, 0, none⟩) (by simp; omega)).trans k0
    have q1 : ∀ o, (wr.alloc o).cell? ⟨w.heap.size, 1, none⟩ = some (iv b) := fun o => ((hB.alloc hB.size o).cell (p := ⟨w.heap.size, 1, none⟩) (by simp; omega)).trans k1
    by_cases hk1 : k < i
    · have hne := hinj k hk1
      have hidx := fun W => idx_fmt hk8 W
      rw [← HA.out] at hidx
      generalize rtAt k = y at *
      unfold Rt.row at hidx
      go_wp2_with fail
      all_goals
        go_roundw
        case rel => exact ⟨k + 1, by go_num, by omega, hB.alloc hB.size _⟩
        case measure => simp [intOf]; omega
    · obtain rfl : k = i := by omega
      obtain ⟨W1, hW1⟩ : ∃ W1, wr.alloc (.cells #[iv a, iv b, iv c, iv d] 54) = W1 := ⟨_, rfl⟩
      have hb1 : Below w.heap.size w W1 := by rw [← hW1]; exact (hb0.trans (hB.mono (by omega))).alloc (by omega) _
      have kn := (Arr.new wr 54 [iv a, iv b, iv c, iv d])
      have kk := (kz.below hB (by omega)).alloc (.cells #[iv a, iv b, iv c, iv d] 54)
      rw [hW1] at kk kn
      have q0' := q0 (.cells #[iv a, iv b, iv c, iv d] 54)
      have q1' := q1 (.cells #[iv a, iv b, iv c, iv d] 54)
      rw [hW1] at q0' q1'
      clear q0 q1
      have n0 := kn.cell (i := 0) rfl
      have n1 := kn.cell (i := 1) rfl
      have n2 := kn.cell (i := 2) rfl
      have n3 := kn.cell (i := 3) rfl
      have z0 := kk.cell (i := 0) rfl
      have z1 := kk.cell (i := 1) rfl
      have z2 := kk.cell (i := 2) rfl
      have z3 := kk.cell (i := 3) rfl
      have f0 := fun i => kk.frozen i
      go_wp2_with fail
      have kf := (((kk.set 0 (iv a)).set 1 (iv b)).set 2 (iv c)).set 3 (iv d)
      have hbF := ((((hb1.setCell (p := ⟨w.heap.size + 1, 0, none⟩) (by simp) (iv a)).setCell (p := ⟨w.heap.size + 1, 1, none⟩) (by simp) (iv b)).setCell (p := ⟨w.heap.size + 1, 2, none⟩) (by simp) (iv c)).setCell (p := ⟨w.heap.size + 1, 3, none⟩) (by simp) (iv d))
      generalize (((W1.setCell ⟨w.heap.size + 1, 0, none⟩ (iv a)).setCell ⟨w.heap.size + 1, 1, none⟩ (iv b)).setCell ⟨w.heap.size + 1, 2, none⟩ (iv c)).setCell ⟨w.heap.size + 1, 3, none⟩ (iv d) = WF at *
      have e0 := kf.cell (i := 0) rfl
      have e1 := kf.cell (i := 1) rfl
      have e2 := kf.cell (i := 2) rfl
      have e3 := kf.cell (i := 3) rfl
      exact bodyPost_ret (v := .tuple #[.agg #[iv a, iv b, iv c, iv d], .bool true]) (by simp [results, Tryd.results37, go_sem, e0, e1, e2, e3]) rfl ⟨rfl, hbF⟩
end Go.Proofs.YtfpmmfoinjcclaaDoor
