import Derived.Test.YtfannkpnmaeljaaGreatDoorGSp2
import Derived.Laws.StructEq
import Derived.Shelf.SlicesQ.Equal
import Derived.Shelf.SlSortCmp.WholeK
import Derived.Shelf.SlSortCmp.NoneTotal
import Derived.Shelf.SlicesE.Clone
import Derived.Lib.SliceRun
set_option linter.unusedVariables false
set_option linter.unusedSimpArgs false
/- join: a span is added to a list of the call's own. -/
namespace Go.Proofs.YtfannkpnmaeljaaGreatDoor
open Go.RowKit

def Joined (w : World) (N : Nat) (v : Value) (l : List (Int × Int)) (e : Ending) (w' : World) : Prop :=
  ∃ v', e = .returned v' ∧ w'.ownsRow N 34 2 v' l.length (spv l) ∧ Turns (fun k => v.ownBlock = some k) w w' ∧ ∀ j, v'.ownBlock = some j → v.ownBlock = some j ∨ w.heap.size ≤ j

theorem cells_new (w : World) (xs : List Value) (t : TypeId) : ∀ j u, xs[j]? = some u → (w.alloc (.cells xs.toArray t)).cell? ((⟨w.heap.size, 0, none⟩ : Addr).add j) = some u := by
  intro j u hj
  have hadd : (⟨w.heap.size, 0, none⟩ : Addr).add j = ⟨w.heap.size, j, none⟩ := by unfold Addr.add; split <;> simp_all
  rw [hadd]
  exact (Arr.new w t xs).cell hj
theorem own_below {w w1 : World} {N : Nat} {e : TypeId} {size : Nat} {v : Value} {n : Nat} {xs : List Value} (h : w.ownsRow N e size v n xs) (b : Below w.heap.size w w1) : w1.ownsRow N e size v n xs :=
  (Turns.of_below (M := fun _ => False) b).row h (fun _ _ h => h)
theorem turns_grown {w w1 w2 : World} {r : Option Nat} (b : Below w.heap.size w w1) (h : w1.grownBy w2 r) : Turns (fun k => r = some k) w w2 := by
  refine ⟨h.os.trans b.os, h.tape.trans b.tape, h.output.trans b.output, Nat.le_trans b.size h.size, fun k hk hn => ?_⟩
  rw [h.block k (by have := b.size; omega) (fun e => hn e.symm), b.block k hk]

set_option maxRecDepth 100000 in
set_option maxHeartbeats 4000000 in
theorem join_any (a b : Int) (N : Nat) (v : Value) (l : List (Int × Int)) (w : World) (h2 : w.ownsRow N 34 2 v l.length (spv l)) (hN : N ≤ w.heap.size) (hl : l.length ≤ 100000) :
    Calls Tryz.prog 111 #[v, .agg #[iv a, iv b]] w (Joined w N v (joinZ l (a, b))) := by
  obtain ⟨i0, hi, hz0, hz1, hz2⟩ := info_parts infoS
  obtain ⟨W1, hW1, b1, z0, ka⟩ := boxS w a b
  have z1 : w.heap.size < W1.heap.size := by omega
  clear z0
  have h2' := own_below h2 b1
  rcases List.eq_nil_or_concat l with rfl | ⟨l0, t, rfl⟩
  · rw [joinZ_nil]
    have hvl : ∃ p c, v = .slice p 0 c := by
      rcases h2.2 with ⟨rfl, _⟩ | ⟨g, cap, cur, rfl, _⟩ <;> exact ⟨_, _, rfl⟩
    obtain ⟨p, c, rfl⟩ := hvl
    have c0 := ka.cell (i := 0) rfl
    have c1 := ka.cell (i := 1) rfl
    go_enter Tryz.func111, Tryz.ntmps111
    go_wp2_with fail
    try rw [hW1]
    clear hW1
    go_quiet (fail)
    obtain ⟨W2, hW2, b2, z2⟩ : ∃ W2, W1.drewN nq = W2 ∧ Below W1.heap.size W1 W2 ∧ W1.heap.size ≤ W2.heap.size := ⟨_, rfl, below_drewN (Below.refl _ _) nq, Nat.le_refl _⟩
    rw [hW2]; clear hW2
    have hk := ka.below b2 ka.lt
    have h3 := own_below h2' b2
    have b3 := bthen b1 b2
    have c0 := hk.cell (i := 0) rfl
    have c1 := hk.cell (i := 1) rfl
    clear h2 h2'
    go_wp2_with (at_builtin; refine wpList_append_mine _ rfl _ _ 40 rfl N 34 i0 (.agg #[.int .i64 0, .int .i64 0]) 2 16 Tryz.underlying40 hi hz0 hz1 hz2 rfl (by decide) _ _ _ rfl (h3.alloc _) ⟨W2.heap.size, 0, none⟩ 1 1 [.int .i64 a, .int .i64 b] rfl rfl (cells_new _ _ _) (by simp [Value.oneCell']) (by unfold maxLen; simp) (by simp) (by simp; omega) ?_; intro v' w2 hown' hgrow _ hnew)
    go_ret
    refine ⟨_, rfl, hown', turns_grown (b3.trans ((Below.refl _ W2).alloc (by omega) _)) hgrow, fun j hj => ?_⟩
    rcases hnew j hj with h | h
    · exact .inl h
    · simp at h; exact .inr (by omega)
  · obtain ⟨xf, xt⟩ := t
    simp only [List.concat_eq_append] at *
    rw [joinZ_last]
    obtain ⟨k, hk⟩ : ∃ k, l0.length = k := ⟨_, rfl⟩
    have hk2 : (l0 ++ [(xf, xt)]).length = k + 1 := by simp [hk]
    rw [hk2] at h2 h2' hl
    obtain ⟨g, cap, rfl⟩ := ownsRow_succ h2
    have hsp := spv_get (l := l0 ++ [(xf, xt)]) (i := k) (by omega)
    have hgx : (l0 ++ [(xf, xt)]).getD k (0, 0) = (xf, xt) := by subst hk; simp
    rw [hgx] at hsp
    have hcl := h2'.cellAt (k * 2 + 1) (by omega)
    rw [hsp.2] at hcl
    have hfr := h2'.frozenAt (k * 2 + 1)
    dsimp only at hcl
    have e1 : ((k + 1 : Nat) : Int) - 1 = (k : Int) := by omega
    have w1' : IntKind.i64.wrap (((k + 1 : Nat) : Int) - 1) = (k : Int) := by rw [e1]; exact w64 (by omega) (by omega)
    have i0' : (0 : Int) ≤ (k : Int) := by omega
    have hidx : (k : Int) * 2 = ((k * 2 : Nat) : Int) := by omega
    have c0 := ka.cell (i := 0) rfl
    have c1 := ka.cell (i := 1) rfl
    have hgl := (h2.lt g rfl).2
    by_cases htb : a ≤ xt
    · rw [if_pos htb]
      dsimp only
      have d1 : decide (a ≤ xt) = true := by simpa using htb
      go_enter Tryz.func111, Tryz.ntmps111
      go_wp2_with fail
      try rw [hW1]
      clear hW1
      go_quiet (fail)
      obtain ⟨W2, hW2, b2, z2⟩ : ∃ W2, W1.drewN nq = W2 ∧ Below W1.heap.size W1 W2 ∧ W1.heap.size ≤ W2.heap.size := ⟨_, rfl, below_drewN (Below.refl _ _) nq, Nat.le_refl _⟩
      rw [hW2]; clear hW2
      have kb := ka.below b2 ka.lt
      have h3 := own_below h2' b2
      have b3 := bthen b1 b2
      have c0 := kb.cell (i := 0) rfl
      have c1 := kb.cell (i := 1) rfl
      have hcl := h3.cellAt (k * 2 + 1) (by omega)
      rw [hsp.2] at hcl
      have hfr := h3.frozenAt (k * 2 + 1)
      have hP : Joined w N (.slice (some ⟨g, 0, none⟩) (k + 1) cap) (l0 ++ [(xf, max xt b)]) (.returned (.slice (some ⟨g, 0, none⟩) (k + 1) cap)) (W2.setCell ⟨g, k * 2 + 1, none⟩ (.int .i64 (max xt b))).drew := by
        have hlen : (l0 ++ [(xf, max xt b)]).length = k + 1 := by simp [hk]
        have hsp2 : (spv (l0 ++ [(xf, xt)])).set (k * 2 + 1) (.int .i64 (max xt b)) = spv (l0 ++ [(xf, max xt b)]) := by
          rw [spv_append, spv_append, List.set_append, if_neg (by rw [spv_len, hk]; omega), spv_len, hk, show k * 2 + 1 - k * 2 = 1 by omega]
          rfl
        have ht : Turns (fun k_1 => (Value.slice (some ⟨g, 0, none⟩) (k + 1) cap).ownBlock = some k_1) w (W2.setCell ⟨g, k * 2 + 1, none⟩ (.int .i64 (max xt b))) := (Turns.of_below b3).of_setCell (M := fun k_1 => (Value.slice (some ⟨g, 0, none⟩) (k + 1) cap).ownBlock = some k_1) (p := ⟨g, k * 2 + 1, none⟩) (.inl rfl) _
        refine ⟨_, rfl, ?_, ⟨ht.os, ht.tape, ht.output, ht.size, ht.block⟩, fun j hj => .inl hj⟩
        rw [hlen, ← hsp2]
        exact (h3.stored (k * 2 + 1) (.int .i64 (max xt b))).1.drew
      have HP := Lib.hid hP
      clear hP h2 h2' h3 hi hz0 hz1 hz2 hsp hgx hk2 hk ka kb
      go_wp2_with fail
      go_region
      go_wp2_with fail
      go_ret
      exact HP.out
    · rw [if_neg htb]
      have d1 : decide (a ≤ xt) = false := by simpa using htb
      go_enter Tryz.func111, Tryz.ntmps111
      go_wp2_with fail
      try rw [hW1]
      clear hW1
      go_quiet (fail)
      obtain ⟨W2, hW2, b2, z2⟩ : ∃ W2, W1.drewN nq = W2 ∧ Below W1.heap.size W1 W2 ∧ W1.heap.size ≤ W2.heap.size := ⟨_, rfl, below_drewN (Below.refl _ _) nq, Nat.le_refl _⟩
      rw [hW2]; clear hW2
      have kb := ka.below b2 ka.lt
      have h3 := own_below h2' b2
      have b3 := bthen b1 b2
      have c0 := kb.cell (i := 0) rfl
      have c1 := kb.cell (i := 1) rfl
      have h3' : W2.ownsRow N 34 2 (.slice (some ⟨g, 0, none⟩) (k + 1) cap) (l0 ++ [(xf, xt)]).length (spv (l0 ++ [(xf, xt)])) := by rw [hk2]; exact h3
      have hk3 := Lib.hid hk2; clear hk2
      have hk := Lib.hid hk; clear hk
      clear h2 h2' hcl hfr hsp hgx
      go_wp2_with (at_builtin; refine wpList_append_mine _ rfl _ _ 40 rfl N 34 i0 (.agg #[.int .i64 0, .int .i64 0]) 2 16 Tryz.underlying40 hi hz0 hz1 hz2 rfl (by decide) _ _ _ rfl (h3.alloc _) ⟨W2.heap.size, 0, none⟩ 1 1 [.int .i64 a, .int .i64 b] rfl rfl (cells_new _ _ _) (by simp [Value.oneCell']) (by unfold maxLen; omega) (by omega) (by simp; omega) ?_; intro v' w2 hown' hgrow _ hnew)
      go_ret
      refine ⟨_, rfl, ?_, turns_grown (b3.trans ((Below.refl _ W2).alloc (by omega) _)) hgrow, fun j hj => ?_⟩
      · have hlen : (l0 ++ [(xf, xt)] ++ [(a, b)]).length = k + 1 + 1 := by rw [List.length_append, hk3.out]; rfl
        rw [hlen, spv_append]
        exact hown'
      rcases hnew j hj with h | h
      · exact .inl h
      · simp at h; exact .inr (by omega)
end Go.Proofs.YtfannkpnmaeljaaGreatDoor

/- The library's contracts for slices.SortFunc and slices.Clone, laid at this program: the tables of numbers, and that the bodies are theirs. -/
namespace Go.Proofs.YtfannkpnmaeljaaGreatDoor
open Go.Shelf
def sortSp_ren : Go.Shelf.Ren := ⟨fun | 6 => 118 | 15 => 136 | 14 => 135 | 28 => 150 | 29 => 151 | 20 => 142 | 21 => 143 | 22 => 144 | 23 => 145 | 24 => 146 | 25 => 147 | 26 => 148 | 27 => 149 | 46 => 153 | 47 => 154 | 48 => 155 | 49 => 156 | 50 => 157 | 57 => 159 | n => n, fun | 22 => 40 | 24 => 34 | 25 => 141 | 3 => 3 | 39 => 144 | 0 => 0 | 53 => 164 | 55 => 166 | 4 => 4 | 46 => 158 | 45 => 157 | 50 => 78 | 5 => 5 | 9 => 9 | 66 => 168 | 70 => 172 | 76 => 175 | 77 => 115 | n => n, fun | n => n⟩
theorem sortSp : Go.Proofs.SlLaysF0.n6 Tryz.prog sortSp_ren := {
  mixed := by kernel_rfl
  f6 := ⟨Tryz.f118.name, by decide, Tryz.func118.trans (congrArg some (by kernel_rfl))⟩
  f14 := ⟨Tryz.f135.name, by decide, Tryz.func135.trans (congrArg some (by kernel_rfl))⟩
  f15 := Tryz.func136.trans (congrArg some (by kernel_rfl))
  f20 := ⟨Tryz.f142.name, by decide, Tryz.func142.trans (congrArg some (by kernel_rfl))⟩
  f21 := ⟨Tryz.f143.name, by decide, Tryz.func143.trans (congrArg some (by kernel_rfl))⟩
  f22 := ⟨Tryz.f144.name, by decide, Tryz.func144.trans (congrArg some (by kernel_rfl))⟩
  f23 := ⟨Tryz.f145.name, by decide, Tryz.func145.trans (congrArg some (by kernel_rfl))⟩
  f24 := ⟨Tryz.f146.name, by decide, Tryz.func146.trans (congrArg some (by kernel_rfl))⟩
  f25 := ⟨Tryz.f147.name, by decide, Tryz.func147.trans (congrArg some (by kernel_rfl))⟩
  f26 := ⟨Tryz.f148.name, by decide, Tryz.func148.trans (congrArg some (by kernel_rfl))⟩
  f27 := ⟨Tryz.f149.name, by decide, Tryz.func149.trans (congrArg some (by kernel_rfl))⟩
  f28 := Tryz.func150.trans (congrArg some (by kernel_rfl))
  f29 := Tryz.func151.trans (congrArg some (by kernel_rfl))
  f46 := ⟨Tryz.f153.name, by decide, Tryz.func153.trans (congrArg some (by kernel_rfl))⟩
  f47 := Tryz.func154.trans (congrArg some (by kernel_rfl))
  f48 := Tryz.func155.trans (congrArg some (by kernel_rfl))
  f49 := ⟨Tryz.f156.name, by decide, Tryz.func156.trans (congrArg some (by kernel_rfl))⟩
  f50 := ⟨Tryz.f157.name, by decide, Tryz.func157.trans (congrArg some (by kernel_rfl))⟩
  f57 := ⟨Tryz.f159.name, by decide, Tryz.func159.trans (congrArg some (by kernel_rfl))⟩
  t0 := Tryz.underlying0
  a0 := Tryz.isAgg0
  z0 := Tryz.sizeOf0
  v0 := Tryz.zeroValue0
  t3 := Tryz.underlying3
  a3 := Tryz.isAgg3
  z3 := Tryz.sizeOf3
  v3 := Tryz.zeroValue3
  t4 := Tryz.underlying4
  a4 := Tryz.isAgg4
  z4 := Tryz.sizeOf4
  v4 := Tryz.zeroValue4
  t5 := Tryz.underlying5
  a5 := Tryz.isAgg5
  z5 := Tryz.sizeOf5
  v5 := Tryz.zeroValue5
  t9 := Tryz.underlying9
  a9 := Tryz.isAgg9
  z9 := Tryz.sizeOf9
  v9 := Tryz.zeroValue9
  t22 := Tryz.underlying40
  a22 := Tryz.isAgg40
  z22 := Tryz.sizeOf40
  v22 := Tryz.zeroValue40
  t25 := Tryz.underlying141
  a25 := Tryz.isAgg141
  z25 := Tryz.sizeOf141
  v25 := Tryz.zeroValue141
  t39 := Tryz.underlying144
  a39 := Tryz.isAgg144
  z39 := Tryz.sizeOf144
  v39 := Tryz.zeroValue144
  t45 := Tryz.underlying157
  a45 := Tryz.isAgg157
  z45 := Tryz.sizeOf157
  v45 := Tryz.zeroValue157
  t46 := Tryz.underlying158
  a46 := Tryz.isAgg158
  z46 := Tryz.sizeOf158
  v46 := Tryz.zeroValue158
  t50 := Tryz.underlying78
  a50 := Tryz.isAgg78
  z50 := Tryz.sizeOf78
  v50 := Tryz.zeroValue78
  t53 := Tryz.underlying164
  a53 := Tryz.isAgg164
  z53 := Tryz.sizeOf164
  v53 := Tryz.zeroValue164
  t55 := Tryz.underlying166
  a55 := Tryz.isAgg166
  z55 := Tryz.sizeOf166
  v55 := Tryz.zeroValue166
  t66 := Tryz.underlying168
  a66 := Tryz.isAgg168
  z66 := Tryz.sizeOf168
  v66 := Tryz.zeroValue168
  t70 := Tryz.underlying172
  a70 := Tryz.isAgg172
  z70 := Tryz.sizeOf172
  v70 := Tryz.zeroValue172
  t76 := Tryz.underlying175
  a76 := Tryz.isAgg175
  z76 := Tryz.sizeOf175
  v76 := Tryz.zeroValue175
  t77 := Tryz.underlying115
  a77 := Tryz.isAgg115
  z77 := Tryz.sizeOf115
  v77 := Tryz.zeroValue115 }
def cloneSp_ren : Go.Shelf.Ren := ⟨fun | 41 => 117 | n => n, fun | 22 => 40 | 23 => 34 | 4 => 4 | n => n, fun | n => n⟩
theorem cloneSp : Go.Proofs.SlLaysE0.n41 Tryz.prog cloneSp_ren := {
  mixed := by kernel_rfl
  f41 := ⟨Tryz.f117.name, by decide, Tryz.func117.trans (congrArg some (by kernel_rfl))⟩
  t4 := Tryz.underlying4
  a4 := Tryz.isAgg4
  z4 := Tryz.sizeOf4
  v4 := Tryz.zeroValue4
  t22 := Tryz.underlying40
  a22 := Tryz.isAgg40
  z22 := Tryz.sizeOf40
  v22 := Tryz.zeroValue40 }
end Go.Proofs.YtfannkpnmaeljaaGreatDoor

/- A copy; the spans in order. -/
namespace Go.Proofs.YtfannkpnmaeljaaGreatDoor
open Go.RowKit Go.Shelf Go.Sort

theorem spv_idx {l : List (Int × Int)} {j : Nat} {u : Value} (h : (spv l)[j]? = some u) : j / 2 < l.length ∧ ((j % 2 = 0 ∧ u = iv (l.getD (j / 2) (0, 0)).1) ∨ (j % 2 = 1 ∧ u = iv (l.getD (j / 2) (0, 0)).2)) := by
  have hl : j < (spv l).length := (List.getElem?_eq_some_iff.1 h).1
  rw [spv_len] at hl
  have hj : j / 2 < l.length := by omega
  obtain ⟨s0, s1⟩ := spv_get hj
  rcases (by omega : j % 2 = 0 ∨ j % 2 = 1) with e | e
  · rw [show j / 2 * 2 = j by omega, h] at s0
    exact ⟨hj, .inl ⟨e, by simpa using s0⟩⟩
  · rw [show j / 2 * 2 + 1 = j by omega, h] at s1
    exact ⟨hj, .inr ⟨e, by simpa using s1⟩⟩

theorem run_append_emptyS (W : World) (ty : TypeId) (g : Nat) (p : Option Addr) (c : Nat) :
    (Builtin.append_ #[40, 40] ty #[.slice (some ⟨g, 0, none⟩) 0 0, .slice p 0 c]).run Tryz.prog W = .ok (.slice (some ⟨g, 0, none⟩) 0 0) W := by
  obtain ⟨i0, hi0, hz0, hz1, hz2⟩ := info_parts infoS
  cases p <;> simp [Builtin.append_, run_underlying Tryz.underlying40, sizeOf, typeInfo, hi0, Builtin.lenOf, Builtin.firstCells, storeCells, loadCells, loadCellsFrom]
theorem wpList_append_emptyS {ops : Array Oper} {rest : List Oper} {o : Oper} {a : Act} {W : World} {Q : Exit → Act → World → Prop} (hgd : o.guard = none) (s x : Operand)
    (ho : o.op = .call { callee := .builtin .append, args := #[s, x], argTypes := #[40, 40] }) (g : Nat) (p : Option Addr) (c : Nat) (hs : a.eval s = .slice (some ⟨g, 0, none⟩) 0 0) (hx : a.eval x = .slice p 0 c)
    (h : wpList Tryz.prog ops Q rest (a.put o.dst (.slice (some ⟨g, 0, none⟩) 0 0)) W) : wpList Tryz.prog ops Q (o :: rest) a W :=
  wpList_plain hgd fun _ hK => by
    have hr := run_append_emptyS W o.type g p c
    unfold Oper.wp execOp
    simp only [ho, resolve, invoke, builtin, Sem.run_bind, Sem.run_pure, Result.andThen_ok, List.map_toArray, List.map_cons, List.map_nil, hs, hx, hr]
    exact hK _ _ h

set_option maxRecDepth 100000 in
set_option maxHeartbeats 1000000 in
theorem clone_any (p : Option Addr) (cap : Nat) (l : List (Int × Int)) (w : World) (hS : ShAt w w.heap.size p l) (hlen : l.length ≤ 100000) :
    Calls Tryz.prog 117 #[.slice p l.length cap] w (Own w l) := by
  obtain ⟨i0, hi, hz0, hz1, hz2⟩ := info_parts infoS
  have main : ∀ b o, p = some ⟨b, o, none⟩ → Calls Tryz.prog 117 #[.slice p l.length cap] w (Own w l) := by
    rintro b o rfl
    have hcon := AnyE.slices_Clone cloneSp i0 (.agg #[.int .i64 0, .int .i64 0]) 2 16 hi hz0 hz1 hz2 rfl (by decide) Tryz.sizeOf34 b o l.length cap (spv l) w (spv_len l) (by unfold maxLen; omega) (by omega)
      (fun j u hj => by
        obtain ⟨hj2, hu⟩ := spv_idx hj
        obtain ⟨b', o', hp, hb, q0, q1⟩ := hS _ hj2
        simp only [Option.some.injEq, Addr.mk.injEq] at hp
        obtain ⟨rfl, rfl, -⟩ := hp
        rcases hu with ⟨e, rfl⟩ | ⟨e, rfl⟩
        · rw [← q0]; congr 2; omega
        · rw [← q1]; congr 2; omega) (spv_one l)
    change Calls Tryz.prog 117 _ _ _ at hcon
    exact hcon.mono fun e w' ⟨v, h1, h2, _, h4⟩ => ⟨v, h1, h2, h4⟩
  rcases l with _ | ⟨x, l⟩
  · rcases p with _ | a
    · have hcon := AnyE.slices_Clone_nil cloneSp 0 cap w
      change Calls Tryz.prog 117 _ _ _ at hcon
      exact hcon.mono fun e w' ⟨h1, h2⟩ => ⟨_, h1, by rw [h2]; exact World.ownsRow_nil _ _ _ _, by rw [h2]; exact Below.refl _ _⟩
    · have hB : Below w.heap.size w (w.alloc (.cells #[] 34)) := (Below.refl _ _).alloc (Nat.le_refl _) _
      have hO : (w.alloc (.cells #[] 34)).ownsRow w.heap.size 34 2 (.slice (some ⟨w.heap.size, 0, none⟩) 0 0) 0 [] :=
        ⟨rfl, .inr ⟨w.heap.size, 0, #[], rfl, Nat.le_refl _, heap_alloc_new _ _, Nat.le_refl _, Nat.zero_le _, rfl, rfl⟩⟩
      clear main hS
      have q22 : ∀ (w : World) (a : Option Addr) (n c n' c' : Nat), (binOp .eql 40 (.slice a n c) (.slice none n' c')).run Tryz.prog w = .ok (.bool a.isNone) w := fun w a n c n' c' => Lib.run_eql_slice_nil w _ _ a n c n' c' Tryz.underlying40
      go_enter Tryz.func117, Tryz.ntmps117
      go_wp2_with (at_builtin; refine wpList_append_emptyS rfl _ _ rfl w.heap.size (some a) cap rfl rfl ?_)
      go_ret
      exact ⟨_, rfl, hO, hB⟩
  · obtain ⟨b, o, hp, -⟩ := hS 0 (by simp)
    exact main b o hp

def encP (x : Int × Int) : List Value := [iv x.1, iv x.2]
theorem ltP (x y : Int × Int) : ltOf (fun x y : Int × Int => cmpZ x.1 y.1) x y = decide (x.1 < y.1) := by
  unfold ltOf cmpZ
  by_cases h1 : x.1 < y.1
  · simp [h1]
  · by_cases h2 : y.1 < x.1 <;> simp [h1, h2]
theorem swoP : SWO (ltOf fun x y : Int × Int => cmpZ x.1 y.1) where
  irrefl x := by rw [ltP]; simp
  trans x y z h1 h2 := by rw [ltP] at *; simp at *; omega
  ntrans x y z h1 h2 := by rw [ltP] at *; simp at *; omega
theorem closureP (x y : Int × Int) (W : World) : Calls Tryz.prog 119 #[.agg #[.int .i64 x.1, .int .i64 x.2], .agg #[.int .i64 y.1, .int .i64 y.2]] W fun e w' => e = .returned (.int .i64 (cmpZ x.1 y.1)) ∧ ∃ q os', w' = grow (W.drewN q) os' := by
  have hcon := fun W' => cmp_any x.1 y.1 W'
  generalize cmpZ x.1 y.1 = r at hcon ⊢
  go_enter Tryz.func119, Tryz.ntmps119
  go_wp2_with (go_at_call 120; refine (hcon _).mono ?_; rintro e w' ⟨rfl, rfl⟩)
  go_ret
  exact ⟨rfl, 0, _, by rw [alloc_eq_grow, alloc_eq_grow, grow_grow]; rfl⟩


theorem flat_spv (l : List (Int × Int)) : (flatK encP 2 l.toArray).toList = spv l := by
  apply List.ext_getElem?
  intro j
  by_cases hj : j < l.length * 2
  · have h1 : j < (flatK encP 2 l.toArray).size := by simpa using hj
    have h2 := get_flatK encP 2 l.toArray j (by simpa using hj)
    rw [Array.getElem?_toList, Array.getElem?_eq_getElem h1]
    rw [getElem!_pos _ j h1] at h2
    rw [h2]
    have hj2 : j / 2 < l.length := by omega
    obtain ⟨s0, s1⟩ := spv_get hj2
    have e : l.toArray[j / 2]! = l.getD (j / 2) (0, 0) := by
      rw [getElem!_pos _ _ (by simpa using hj2), getD_at hj2]; rfl
    rw [e]
    rcases (by omega : j % 2 = 0 ∨ j % 2 = 1) with h | h
    · rw [show j / 2 * 2 = j by omega] at s0
      rw [h, s0]; rfl
    · rw [show j / 2 * 2 + 1 = j by omega] at s1
      rw [h, s1]; rfl
  · rw [List.getElem?_eq_none (by simp; omega), List.getElem?_eq_none (by rw [spv_len]; omega)]

theorem sorted_list {l : List (Int × Int)} {d : Array (Int × Int)} (hp : PermIn 0 l.toArray.size l.toArray d) (hs : SortedIn (ltOf fun x y : Int × Int => cmpZ x.1 y.1) 0 l.toArray.size d) :
    d.toList.Perm l ∧ d.toList.Pairwise fun s t => s.1 ≤ t.1 := by
  obtain ⟨h1, -, h3⟩ := hp
  simp only [List.size_toArray] at h1 h3 hs
  constructor
  · rw [show d.extract 0 l.length = d by rw [← h1]; simp, show l.toArray.extract 0 l.length = l.toArray by rw [show l.length = l.toArray.size by simp]; exact Array.extract_size] at h3
    simpa using h3
  · rw [List.pairwise_iff_getElem]
    intro i j hi hj hij
    have hi' : i < d.size := by simpa using hi
    have hj' : j < d.size := by simpa using hj
    have := hs i j (Nat.zero_le _) hij (by omega)
    rw [ltP, getElem!_pos d i hi', getElem!_pos d j hj'] at this
    simp at this
    simpa using this

theorem heap_sortK {w : World} {g n : Nat} {os : Array Obj} {cur : Array Value} {e : TypeId} {fr : Nat × Nat} (d : Array (Int × Int)) (hb : w.heap[g]? = some (.cells cur e fr)) :
    (sortWorldK encP 2 w g 0 n d os).heap[g]? = some (.cells (putCells id 0 (flatK encP 2 d) cur) e fr) := by
  have hg : g < w.heap.size := (Array.getElem?_eq_some_iff.1 hb).1
  unfold sortWorldK putRowK
  rw [heap_grow_old _ _ (by simpa using hg)]
  simp [putRow, mapBlock, Sort.ahead, Array.getElem?_modify, hb, onCells]
theorem turns_sortK {w : World} {g n : Nat} {os : Array Obj} (d : Array (Int × Int)) : Turns (fun k => g = k) w (sortWorldK encP 2 w g 0 n d os) := by
  refine ⟨rfl, rfl, rfl, by simp [sortWorldK, putRowK], fun k hk hne => ?_⟩
  unfold sortWorldK putRowK
  rw [heap_grow_old _ _ (by simpa using hk)]
  simp [putRow, mapBlock, Sort.ahead, Array.getElem?_modify, hne]
theorem take_putK (cur : Array Value) (l : List (Int × Int)) (h : l.length * 2 ≤ cur.size) : (putCells id 0 (flatK encP 2 l.toArray) cur).toList.take (l.length * 2) = spv l := by
  rw [← flat_spv]
  apply List.ext_getElem?
  intro j
  by_cases hj : j < l.length * 2
  · rw [List.getElem?_take_of_lt hj, Array.getElem?_toList, Array.getElem?_toList]
    simp [putCells, hj, show j < cur.size by omega]
  · rw [List.getElem?_take_eq_none (by omega), List.getElem?_eq_none (by simp; omega)]

set_option maxHeartbeats 1000000 in
theorem sort_any (N : Nat) (v : Value) (l : List (Int × Int)) (w : World) (h : w.ownsRow N 34 2 v l.length (spv l)) (hlen : l.length ≤ 100000) :
    Calls Tryz.prog 118 #[v, .func (.func 119) #[] #[]] w fun e w' => (∃ vv, e = .returned vv) ∧ ∃ l' : List (Int × Int), l'.Perm l ∧ l'.Pairwise (fun s t => s.1 ≤ t.1) ∧ w'.ownsRow N 34 2 v l'.length (spv l') ∧ Turns (fun k => v.ownBlock = some k) w w' := by
  rcases h.2 with ⟨rfl, h0⟩ | ⟨g, cap, cur, rfl, hb, hg, hnc, hcm, hcs, ht⟩
  · have hcon := AnyF.slices_SortFunc_none sortSp none 0 (.func (.func 119) #[] #[]) w
    change Calls Tryz.prog 118 _ _ _ at hcon
    have hl : l = [] := List.eq_nil_of_length_eq_zero h0
    subst hl
    exact hcon.mono fun e w' ⟨h1, h2⟩ => ⟨⟨_, h1⟩, [], List.Perm.refl _, List.Pairwise.nil, by rw [h2]; exact h, by rw [h2]; exact Turns.refl _ _⟩
  · have eg : ∀ args w, (callFunc 119 args).run Tryz.prog w = .ok (.enter 119 args) w := enters_of Tryz.func119 (by kernel_rfl) rfl
    have hH : HoldsK encP 2 w g 0 l.toArray := by
      intro j hj
      have hj' : j < l.length * 2 := by simpa using hj
      have hj1 : j < (flatK encP 2 l.toArray).size := hj
      rw [Nat.zero_add]
      refine ⟨?_, h.frozenAt j⟩
      rw [h.cellAt j hj', ← flat_spv, Array.getElem?_toList, Array.getElem?_eq_getElem hj1, getElem!_pos _ j hj1]
      rfl
    have hcon := AnyQ.slices_SortFunc sortSp 2 Tryz.isAgg34 Tryz.sizeOf34 encP (fun _ => rfl) (fun x v hv => by simp [encP] at hv; rcases hv with rfl | rfl <;> rfl) (fun x y => cmpZ x.1 y.1) swoP 119 #[] g 0 cap l.toArray w eg
      (fun _ _ _ _ x y => closureP x y _) hH (Array.getElem?_eq_some_iff.1 hg).1 (by simp; omega)
    change Calls Tryz.prog 118 _ _ _ at hcon
    rw [show l.toArray.size = l.length by simp] at hcon
    refine hcon.mono fun e w' hw => ?_
    obtain ⟨rfl, d, n, os, hp, hs, rfl⟩ := hw
    obtain ⟨p1, p2⟩ := sorted_list (by simpa using hp) (by simpa using hs)
    have hdl : d.toList.length = l.length := p1.length_eq
    refine ⟨⟨_, rfl⟩, d.toList, p1, p2, ⟨by rw [spv_len], .inr ⟨g, cap, _, by rw [hdl], hb, heap_sortK d hg, by omega, hcm, by simpa [putCells] using hcs, ?_⟩⟩, ?_⟩
    · have := take_putK cur d.toList (by omega)
      simpa using this
    · exact (turns_sortK d).mono fun k hk => by rw [hk]; rfl
end Go.Proofs.YtfannkpnmaeljaaGreatDoor

/- Empty spans are deleted in place. -/
namespace Go.Proofs.YtfannkpnmaeljaaGreatDoor
open Go.RowKit

def isE (s : Int × Int) : Bool := decide (s.2 ≤ s.1)
def fullZ (l : List (Int × Int)) : List (Int × Int) := l.filter fun s => !isE s

theorem own_cutS {w : World} {N : Nat} {e : TypeId} {size g n cap i : Nat} {xs : List Value} (h : w.ownsRow N e size (.slice (some ⟨g, 0, none⟩) n cap) n xs) (hi : i ≤ n) : w.ownsRow N e size (.slice (some ⟨g, 0, none⟩) i cap) i (xs.take (i * size)) := by
  rcases h.2 with ⟨h', _⟩ | ⟨g', cap', cur, h', hb, hg, hnc, hcm, hcs, htake⟩
  · simp at h'
  · simp only [Value.slice.injEq, Option.some.injEq, Addr.mk.injEq, and_true, true_and] at h'
    obtain ⟨rfl, rfl⟩ := h'
    have hm : i * size ≤ n * size := Nat.mul_le_mul_right _ hi
    refine ⟨by rw [List.length_take, h.1]; omega, .inr ⟨g, cap, cur, rfl, hb, hg, by omega, hcm, hcs, ?_⟩⟩
    rw [← htake, List.take_take, Nat.min_eq_left hm]
theorem own_beyond {N : Nat} {e : TypeId} {size g cap i : Nat} {xs : List Value} : ∀ (vs : List Value) (o : Nat) (w : World), w.ownsRow N e size (.slice (some ⟨g, 0, none⟩) i cap) i xs → i * size ≤ o → (w.setCells g o vs).ownsRow N e size (.slice (some ⟨g, 0, none⟩) i cap) i xs
  | [], _, _, h, _ => h
  | v :: vs, o, w, h, ho => by
    refine own_beyond vs (o + 1) _ ?_ (by omega)
    have := (h.stored o v).1
    rwa [List.set_eq_of_length_le (by rw [h.1]; exact ho)] at this
theorem turns_setCells {g : Nat} : ∀ (vs : List Value) (o : Nat) (w : World), Turns (fun k => g = k) w (w.setCells g o vs)
  | [], _, _ => Turns.refl _ _
  | v :: vs, o, w => ((Turns.refl (fun k => g = k) w).of_setCell (p := ⟨g, o, none⟩) (.inl rfl) v).trans (turns_setCells vs (o + 1) _)

theorem zero_cells (n : Nat) : (Builtin.zeroCells (Value.agg #[.int .i64 0, .int .i64 0]).cells n).toList = List.replicate (n * 2) (iv 0) := by
  rw [show (Value.agg #[.int .i64 0, .int .i64 0]).cells = #[iv 0, iv 0] from rfl]
  simp [Builtin.zeroCells]
  apply List.ext_getElem
  · simp
  · intro i h1 h2
    simp
    rcases (by omega : i % 2 = 0 ∨ i % 2 = 1) with h | h <;> simp [h]
theorem run_clearS (w : World) (ty : TypeId) (b o n c : Nat) (hn : 0 < n)
    (hc : ∀ j, j < n * 2 → (w.cell? ⟨b, o + j, none⟩).isSome = true) (hf : ∀ j, j < n * 2 → w.frozen? ⟨b, o + j, none⟩ = false) :
    (Builtin.clear_ #[40] ty #[.slice (some ⟨b, o, none⟩) n c]).run Tryz.prog w = .ok (.tuple #[]) (w.setCells b o (List.replicate (n * 2) (iv 0))) := by
  have hst := run_storeCells_cells (P := Tryz.prog) b o (List.replicate (n * 2) (iv 0)) 0 w (by simpa using hc) (by simpa using hf) (by intro v hv'; rw [List.eq_of_mem_replicate hv']; rfl)
  simp only [Nat.add_zero] at hst
  have hz := zero_cells n
  obtain ⟨m, rfl⟩ : ∃ m, n = m + 1 := ⟨n - 1, by omega⟩
  simp [Builtin.clear_, run_underlying Tryz.underlying40, Tryz.zeroValue34, hz, hst]

theorem full_snoc {l : List (Int × Int)} {j : Nat} (h : j < l.length) : fullZ (l.take (j + 1)) = fullZ (l.take j) ++ if isE (l.getD j (0, 0)) then [] else [l.getD j (0, 0)] := by
  unfold fullZ
  rw [List.take_succ_eq_append_getElem h, List.filter_append, getD_at h]
  congr 1
  cases hE : isE l[j] <;> simp [hE]

set_option maxRecDepth 100000 in
set_option maxHeartbeats 2000000 in
theorem del_any (N : Nat) (v : Value) (l : List (Int × Int)) (w : World) (h : w.ownsRow N 34 2 v l.length (spv l)) (hlen : l.length ≤ 100000) :
    Calls Tryz.prog 116 #[v, .func (.func 77) #[] #[]] w fun e w' => ∃ v', e = .returned v' ∧ w'.ownsRow N 34 2 v' (fullZ l).length (spv (fullZ l)) ∧ Turns (fun k => v.ownBlock = some k) w w' ∧ v'.ownBlock = v.ownBlock := by
  have eg : ∀ args w, (callFunc 77 args).run Tryz.prog w = .ok (.enter 77 args) w := enters_of Tryz.func77 (by kernel_rfl) rfl
  obtain ⟨p, cap, rfl, hS⟩ := own_sh h
  have hidx := index_any 77 #[] isE eg p cap l w hS hlen (fun W x hb => isEmpty_any x.1 x.2 W)
  have he := fun a b W => isEmpty_any a b W
  obtain ⟨n, hn⟩ : ∃ n, l.length = n := ⟨_, rfl⟩
  rw [hn] at hidx h hlen ⊢
  have HN := Lib.hid hn; clear hn
  clear hS eg
  go_enter Tryz.func116, Tryz.ntmps116
  go_wp2_with fail
  refine hidx.mono ?_
  rintro e w1 ⟨⟨r, rfl, hr⟩, b1⟩
  rcases hr with ⟨k, hk, rfl, h1, h2⟩ | ⟨rfl, h1⟩
  · have hne : ((k : Int) == -1) = false := by simp
    have hown := own_below h b1
    rw [HN.out] at hk
    have hP : fullZ (l.take k) = l.take k ∧ fullZ (l.take (k + 1)) = l.take k := by
      have e1 : fullZ (l.take k) = l.take k := by
        unfold fullZ
        rw [List.filter_eq_self]
        intro s hs
        obtain ⟨i, hi, rfl⟩ := List.getElem_of_mem hs
        rw [List.length_take] at hi
        have := h2 i (by omega)
        rw [getD_at (by omega)] at this
        simp [this]
      refine ⟨e1, ?_⟩
      rw [full_snoc (by have := HN.out; omega), h1, e1, if_pos rfl, List.append_nil]
    have HP := Lib.hid hP
    obtain ⟨g, rfl⟩ : ∃ g, p = some ⟨g, 0, none⟩ := by
      rcases h.2 with ⟨h', h0⟩ | ⟨g, cap', cur, h', _⟩
      · omega
      · cases h'; exact ⟨g, rfl⟩
    have hw2 : IntKind.i64.wrap ((k : Int) + 1) = ((k + 1 : Nat) : Int) := by rw [w64 (by omega) (by omega)]; rfl
    clear h1 h2 hP hidx
    go_wp2_with fail
    go_loopw [5, 6] (fun s5 s6 wr => ∃ (i j : Nat) (junk : List (Int × Int)), s5 = .int .i64 i ∧ s6 = .int .i64 j ∧ i < j ∧ j ≤ n ∧ (fullZ (l.take j)).length = i ∧ junk.length = j - i ∧ wr.ownsRow N 34 2 (.slice (some ⟨g, 0, none⟩) n cap) n (spv (fullZ (l.take j) ++ junk ++ l.drop j)) ∧ Turns (fun b => g = b) w wr) (fun _ s6 _ => n - (intOf s6).toNat)
    case atStart =>
      have hk' := HP.out
      have hl := HN.out
      refine ⟨k, k + 1, [l.getD k (0, 0)], rfl, by go_num, by omega, by omega, by rw [hk'.2, List.length_take]; omega, by simp, ?_, Turns.of_below b1⟩
      rw [hk'.2]
      have : l.take k ++ [l.getD k (0, 0)] ++ l.drop (k + 1) = l := by
        rw [getD_at (by omega), ← List.take_succ_eq_append_getElem, List.take_append_drop]
      rw [this]
      exact hown
    case round =>
      clear hown hne hw2 HP
      obtain ⟨i, j, junk, rfl, rfl, hij, hjn, hfl, hjl, hown, ht⟩ := hrel
      have hgl := (hown.lt g rfl).2
      by_cases hlt : j < n
      · have hJ : ∃ h0 jt, junk = h0 :: jt := by
          cases junk with
          | nil => simp at hjl; omega
          | cons a b => exact ⟨a, b, rfl⟩
        obtain ⟨h0, jt, rfl⟩ := hJ
        have hll := HN.out
        have hjlt : j < l.length := by omega
        have hgl2 : fullZ (l.take j) ++ (h0 :: jt) ++ l.drop j = fullZ (l.take j) ++ (h0 :: jt) ++ l.getD j (0, 0) :: l.drop (j + 1) := by
          rw [List.drop_eq_getElem_cons hjlt, getD_at hjlt]
        rw [hgl2] at hown
        have hsn := full_snoc hjlt
        obtain ⟨X, hX⟩ : ∃ X, l.getD j (0, 0) = X := ⟨_, rfl⟩
        rw [hX] at hown hsn
        have hlenA : (fullZ (l.take j) ++ (h0 :: jt)).length = j := by rw [List.length_append, hfl, hjl]; omega
        have hsp := spv_get (l := fullZ (l.take j) ++ (h0 :: jt) ++ X :: l.drop (j + 1)) (i := j) (by rw [List.length_append, hlenA]; simp)
        have hgx : (fullZ (l.take j) ++ (h0 :: jt) ++ X :: l.drop (j + 1)).getD j (0, 0) = X := by
          rw [List.getD_eq_getElem?_getD, List.getElem?_append_right (by omega), hlenA]; simp
        rw [hgx] at hsp
        obtain ⟨x, y⟩ := X
        have q0 := hown.cellAt (j * 2) (by omega)
        have q1 := hown.cellAt (j * 2 + 1) (by omega)
        rw [hsp.1] at q0
        rw [hsp.2] at q1
        dsimp only at q0 q1
        have hidx : (j : Int) * 2 = ((j * 2 : Nat) : Int) := by omega
        have hidx2 : (i : Int) * 2 = ((i * 2 : Nat) : Int) := by omega
        have hw2 : IntKind.i64.wrap ((j : Int) + 1) = ((j + 1 : Nat) : Int) := by rw [w64 (by omega) (by omega)]; rfl
        have hw3 : IntKind.i64.wrap ((i : Int) + 1) = ((i + 1 : Nat) : Int) := by rw [w64 (by omega) (by omega)]; rfl
        have hin : (i : Int) < (n : Int) := by omega
        have hi0 : (0 : Int) ≤ (i : Int) := by omega
        have hspn : ∀ u v : Int, (spv (fullZ (l.take j) ++ (h0 :: jt) ++ (x, y) :: l.drop (j + 1))).set (i * 2) (iv u) = spv (fullZ (l.take j) ++ ((u, h0.2) :: jt) ++ (x, y) :: l.drop (j + 1)) ∧ (spv (fullZ (l.take j) ++ ((u, h0.2) :: jt) ++ (x, y) :: l.drop (j + 1))).set (i * 2 + 1) (iv v) = spv (fullZ (l.take j) ++ ((u, v) :: jt) ++ (x, y) :: l.drop (j + 1)) := by
          intro u v
          constructor
          · rw [List.append_assoc, spv_append, List.set_append, if_neg (by rw [spv_len, hfl]; omega), spv_len, hfl, show i * 2 - i * 2 = 0 by omega, List.append_assoc, spv_append (fullZ _)]
            rfl
          · rw [List.append_assoc, spv_append, List.set_append, if_neg (by rw [spv_len, hfl]; omega), spv_len, hfl, show i * 2 + 1 - i * 2 = 1 by omega, List.append_assoc, spv_append (fullZ _)]
            rfl
        have HX := Lib.hid hX
        have HS := Lib.hid hspn
        have HO := Lib.hid hown
        have HSN := Lib.hid hsn
        have HFL := Lib.hid hfl
        have HJL := Lib.hid hjl
        clear hX hspn hsn hsp hgx hgl2 hlenA hfl hjl hll hjlt h
        by_cases hE : y ≤ x
        · have he1 := fun W => he x y W
          rw [decide_eq_true hE] at he1
          have hE2 : isE (x, y) = true := decide_eq_true hE
          clear hown he
          go_wp2_with (go_at_call 77; refine (he1 _).mono ?_; rintro e w6 ⟨rfl, b6⟩)
          have b7 : Below wr.heap.size wr w6 := ((Below.refl _ wr).alloc (Nat.le_refl _) _).trans (b6.mono (by simp))
          refine ⟨⟨i, j + 1, h0 :: jt ++ [(x, y)], rfl, by go_num, by omega, by omega, ?_, ?_, ?_, ht.trans (Turns.of_below b7)⟩, by simp [intOf] <;> omega⟩
          · rw [HSN.out, if_pos hE2, List.append_nil]; exact HFL.out
          · rw [List.length_append, HJL.out]; simp; omega
          · rw [HSN.out, if_pos hE2, List.append_nil, ← List.append_assoc, List.append_assoc _ [(x, y)]]
            exact own_below HO.out b7
        · have he1 := fun W => he x y W
          rw [decide_eq_false hE] at he1
          have hE2 : isE (x, y) = false := decide_eq_false hE
          clear hown he
          go_wp2_with fail
          refine (he1 _).mono ?_; rintro e w6 ⟨rfl, b6⟩
          have b0 : Below wr.heap.size wr (wr.alloc (.cells #[iv x, iv y] 34)) := (Below.refl _ wr).alloc (Nat.le_refl _) _
          have b7 : Below wr.heap.size wr w6 := b0.trans (b6.mono (by simp))
          have hown := own_below HO.out b7
          have kb := (Arr.new wr 34 [iv x, iv y]).below b6 (by simp)
          have c0 := kb.cell (i := 0) rfl
          have c1 := kb.cell (i := 1) rfl
          have m0 := hown.cellAt (i * 2) (by omega)
          have m1 := hown.cellAt (i * 2 + 1) (by omega)
          have f0 := hown.frozenAt (i * 2)
          have f1 := hown.frozenAt (i * 2 + 1)
          have hlenH : ∀ q, q < n * 2 → (spv (fullZ (l.take j) ++ h0 :: jt ++ (x, y) :: l.drop (j + 1)))[q]? = some ((spv (fullZ (l.take j) ++ h0 :: jt ++ (x, y) :: l.drop (j + 1))).getD q (iv 0)) := fun q hq => by
            rw [List.getD_eq_getElem?_getD, List.getElem?_eq_getElem (by rw [hown.1]; omega)]; rfl
          rw [hlenH _ (by omega)] at m0 m1
          generalize (spv (fullZ (l.take j) ++ h0 :: jt ++ (x, y) :: l.drop (j + 1))).getD (i * 2) (iv 0) = M0 at m0
          generalize (spv (fullZ (l.take j) ++ h0 :: jt ++ (x, y) :: l.drop (j + 1))).getD (i * 2 + 1) (iv 0) = M1 at m1
          have hP : ((w6.setCell ⟨g, i * 2, none⟩ (iv x)).setCell ⟨g, i * 2 + 1, none⟩ (iv y)).ownsRow N 34 2 (.slice (some ⟨g, 0, none⟩) n cap) n (spv (fullZ (l.take (j + 1)) ++ (jt ++ [(x, y)]) ++ l.drop (j + 1))) ∧ Turns (fun b => g = b) w ((w6.setCell ⟨g, i * 2, none⟩ (iv x)).setCell ⟨g, i * 2 + 1, none⟩ (iv y)) := by
            constructor
            · have h3 := (hown.stored (i * 2) (iv x)).1
              rw [(HS.out x y).1] at h3
              have h4 := (h3.stored (i * 2 + 1) (iv y)).1
              rw [(HS.out x y).2] at h4
              rw [HSN.out, if_neg (by rw [hE2]; exact Bool.false_ne_true)]
              have e : fullZ (l.take j) ++ [(x, y)] ++ (jt ++ [(x, y)]) ++ l.drop (j + 1) = fullZ (l.take j) ++ (x, y) :: jt ++ (x, y) :: l.drop (j + 1) := by simp
              rw [e]
              exact h4
            · exact (ht.trans (Turns.of_below b7)).trans (((Turns.refl (fun b => g = b) _).of_setCell (p := ⟨g, i * 2, none⟩) (.inl rfl) _).of_setCell (p := ⟨g, i * 2 + 1, none⟩) (.inl rfl) _)
          have HP := Lib.hid hP
          clear hP hown hlenH kb HO HS ht
          go_wp2_with fail
          refine ⟨⟨i + 1, j + 1, jt ++ [(x, y)], by go_num, by go_num, by omega, by omega, ?_, ?_, HP.out.1, HP.out.2⟩, by simp [intOf] <;> omega⟩
          · rw [HSN.out, if_neg (by rw [hE2]; exact Bool.false_ne_true), List.length_append, HFL.out]; rfl
          · have := HJL.out
            simp at this ⊢; omega
      · obtain rfl : j = n := by omega
        have hcap : j ≤ cap := by
          rcases hown.2 with ⟨h', _⟩ | ⟨g', cap', cur, h', _, _, hnc, _⟩
          · cases h'
          · cases h'; exact hnc
        have hci : ¬ cap = i := by omega
        have hic : i ≤ cap := by omega
        have hic2 : (i : Int) ≤ (cap : Int) := by omega
        have hown2 := own_cutS hown (i := i) (by omega)
        have hz : 0 < j - i := by omega
        have hclr := fun ty => run_clearS wr ty g (i * 2) (j - i) (cap - i) hz (fun q hq => by rw [hown.cellAt _ (by omega), List.getElem?_eq_getElem (by rw [hown.1]; omega)]; rfl) (fun q hq => hown.frozenAt _)
        have hidx2 : (i : Int) * 2 = ((i * 2 : Nat) : Int) := by omega
        have hil : (i : Int) ≤ (j : Int) := by omega
        have hi0 : (0 : Int) ≤ (i : Int) := by omega
        have hP : (wr.setCells g (i * 2) (List.replicate ((j - i) * 2) (iv 0))).ownsRow N 34 2 (.slice (some ⟨g, 0, none⟩) i cap) (fullZ l).length (spv (fullZ l)) ∧ Turns (fun k => (Value.slice (some ⟨g, 0, none⟩) j cap).ownBlock = some k) w (wr.setCells g (i * 2) (List.replicate ((j - i) * 2) (iv 0))) := by
          have hl := HN.out
          have e0 : l.take j = l := List.take_of_length_le (by omega)
          rw [List.append_assoc, spv_append, List.take_left' (by rw [spv_len, hfl]), e0] at hown2
          rw [e0] at hfl
          rw [hfl]
          exact ⟨own_beyond _ _ _ hown2 (Nat.le_refl _), (ht.trans (turns_setCells _ _ _)).mono fun k hk => by rw [← hk]; rfl⟩
        have HP := Lib.hid hP
        clear hown hown2 hP hfl hjl ht h he
        go_wp2_with fail
        go_ret
        exact ⟨_, rfl, HP.out.1, HP.out.2, rfl⟩
  · have hP : fullZ l = l := by
      unfold fullZ
      rw [List.filter_eq_self]
      intro s hs
      obtain ⟨i, hi, rfl⟩ := List.getElem_of_mem hs
      have := h1 i hi
      rw [getD_at hi] at this
      simp [this]
    have HP := Lib.hid hP
    clear h1 hP hidx
    have hown := own_below h b1
    go_wp2_with fail
    go_ret
    exact ⟨_, rfl, by rw [HP.out, HN.out]; exact hown, Turns.of_below b1, rfl⟩
end Go.Proofs.YtfannkpnmaeljaaGreatDoor
