/- PutInt returns the groups of the folded integer; what lay in memory before is as it was. -/
import Derived.Test.YtemdfbnfpdfpeaaDoorWireFnsA
import Derived.Test.YtemdfbnfpdfpeaaDoorWireMath
import Derived.Test.YtemdfbnfpdfpeaaDoorWireClone
import Derived.RangeFuncNested
import Derived.RangeFuncBound
import Derived.RangeFuncCalls
import Derived.RangeFuncLeaves
import Derived.RangeFuncBox
import Derived.Shelf.Abstract
import Derived.Shelf.RegionOpen
import Derived.WalkKit
import Derived.OwnWalkIn
import Derived.TacticsInMore
import Derived.LoopNIn
import Derived.LoopIn
import Derived.Maps.AppendAt
import Derived.Lib.Hide
namespace Go.Proofs.YtemdfbnfpdfpeaaDoor
open Go.RowKit Go.Shelf
attribute [local go_sem] Oper.semAt_some

set_option maxRecDepth 100000 in
set_option maxHeartbeats 1000000 in
theorem groups1_in (F : Fence) (n : Nat) (hf : F.fn 28) (hro : F.round = none) (hn : 1 ≤ n) (l Bn n₀ : Nat) (z : Int) (hz0 : 0 ≤ z) (hz : z ≤ 9223372036854775807) (J Jx : List Int → World → Prop)
    (hY : ∀ pre x W, J pre W → pre.length < (enc z).length → YieldAt F (n - 1) Tryd.prog l #[.int .u8 x] W fun e W' =>
      (e = .returned (.bool true) ∧ J (pre ++ [x]) W' ∧ Below n₀ W W') ∨ (e = .returned (.bool false) ∧ Jx (pre ++ [x]) W'))
    (W : World) (hBn : W.cell? ⟨Bn, 0, none⟩ = some (.int .i64 z)) (h0 : J [] W) :
    CallsIn F n Tryd.prog 28 #[.func (.yield l) #[] #[], .pointer (some ⟨Bn, 0, none⟩)] W fun e W' => (∃ v, e = .returned v) ∧
      ((∃ ys, ys = enc z ∧ J ys W') ∨ (∃ pre, pre <+: enc z ∧ Jx pre W')) := by
  refine callsIn_of_wp Tryd.func28 rfl hf ?_ hro
  simp only [Tryd.ntmps28, List.size_toArray, List.length_cons, List.length_nil, Nat.reduceAdd, Nat.reduceSub, Array.replicate_succ, Array.replicate_zero, List.push_toArray, List.append_toArray, List.nil_append, List.cons_append]
  gi_wp2
  gi_loopw [3] (fun p wr => ∃ (pre : List Int) (r : Int), p = .int .i64 r ∧ 0 ≤ r ∧ r ≤ 9223372036854775807 ∧ enc z = pre ++ enc r ∧ J pre wr)
    (fun p _ => (intOf p).toNat)
  case atStart =>
    exact ⟨[], z, rfl, hz0, hz, rfl, h0⟩
  case round =>
    obtain ⟨pre, r, rfl, hr0, hr, hx, hJs⟩ := hrel
    have hx' := Lib.hid hx
    clear hBn h0
    by_cases hlt : r < 128
    · rw [enc_lt hlt] at hx
      have hle : pre.length < (enc z).length := by rw [hx]; simp
      clear hx
      obtain ⟨fn, tmps, assign, body, hy, hR⟩ := hY pre r wr hJs hle
      gi_wp2
      refine hR.mono ?_
      rintro e W3 (⟨rfl, hJ3, hk3⟩ | ⟨rfl, hJx3⟩)
      · gi_wp2
        go_end0
        exact ⟨⟨_, rfl⟩, .inl ⟨_, by rw [hx'.out, enc_lt hlt], hJ3⟩⟩
      · gi_wp2
        go_end0
        exact ⟨⟨_, rfl⟩, .inr ⟨_, by rw [hx'.out, enc_lt hlt]; exact List.prefix_refl _, hJx3⟩⟩
    · rw [enc_ge (by omega) hr] at hx
      have hle : pre.length < (enc z).length := by rw [hx]; simp
      clear hx
      obtain ⟨fn, tmps, assign, body, hy, hR⟩ := hY pre (r % 128 + 128) wr hJs hle
      gi_wp2
      refine hR.mono ?_
      rintro e W3 (⟨rfl, hJ3, hk3⟩ | ⟨rfl, hJx3⟩)
      · gi_wp2
        go_roundw
        case rel => exact ⟨pre ++ [r % 128 + 128], r / 128, rfl, by omega, by omega, by rw [hx'.out, enc_ge (by omega) hr]; simp, hJ3⟩
        case measure => simp [intOf]; omega
      · gi_wp2
        refine bodyPost_ret (results_none rfl _ _ _) rfl ?_
        exact ⟨⟨_, rfl⟩, .inr ⟨pre ++ [r % 128 + 128], by rw [hx'.out, enc_ge (by omega) hr]; exact ⟨enc (r / 128), by simp⟩, hJx3⟩⟩
set_option maxHeartbeats 1000000 in
theorem groups_in (F : Fence) (n : Nat) (hf : F.fn 23) (hro : F.round = none) (z : Int) (w : World) :
    CallsIn F n Tryd.prog 23 #[.int .i64 z] w fun e w' => e = .returned (.func (.func 28) #[] #[.pointer (some ⟨w.heap.size, 0, none⟩)]) ∧ w' = w.alloc (.cells #[.int .i64 z] 3) := by
  refine callsIn_of_wp Tryd.func23 rfl hf ?_ hro
  simp only [Tryd.ntmps23, List.size_toArray, List.length_cons, List.length_nil, Nat.reduceAdd, Nat.reduceSub, Array.replicate_succ, Array.replicate_zero, List.push_toArray, List.append_toArray, List.nil_append, List.cons_append]
  gi_wp2
  go_ret
  exact ⟨rfl, rfl⟩

theorem groups_stops (F : Fence) (n : Nat) (hf : F.fn 28) (hro : F.round = none) (hn : 1 ≤ n) (Bn n₀ : Nat) (z : Int) (hz0 : 0 ≤ z) (hz : z ≤ 9223372036854775807) (w : World) (hBn : Bn < w.heap.size)
    (hc : w.cell? ⟨Bn, 0, none⟩ = some (.int .i64 z)) :
    SeqStopsK F n Tryd.prog 28 #[.pointer (some ⟨Bn, 0, none⟩)] (fun x : Int => #[Value.int .u8 x]) (Below n₀) (fun ys => ys = enc z) (fun pre => pre <+: enc z) (enc z).length w := fun l J Jx W hW _ _ hY h0 =>
  groups1_in F n hf hro hn l Bn n₀ z hz0 hz J Jx hY W ((hW.cell (p := ⟨Bn, 0, none⟩) hBn).trans hc) h0

theorem conv_row {W : World} {n₀ k : Nat} {v : Value} {xs : List Int} (hk : k = xs.length) (h : W.ownsRow n₀ 5 1 v k (xs.map (Value.int .u8))) :
    (convert 38 9 v).run Tryd.prog W = .ok (.string (strOfNums xs)) W := by
  have h' := h
  rcases h.2 with ⟨rfl, h0⟩ | ⟨g, cap, cur, rfl, _⟩
  · rw [run_convert_bytes_nil W 38 5 Tryd.underlying38 Tryd.underlying5 _ _ _ Tryd.underlying9]
    have : xs = [] := by
      cases xs with
      | nil => rfl
      | cons => simp at hk; omega
    subst this; rfl
  · refine run_convert_bytes_arg W 38 5 Tryd.underlying38 Tryd.underlying5 _ _ _ _ xs hk.symm (fun i hi => ?_) _ Tryd.underlying9
    have := h'.cellAt (j := i) (by simpa [← hk] using hi)
    simp at this
    rw [Nat.zero_add, this]
    simp [List.getElem?_eq_getElem (show i < xs.length by omega)]

set_option maxRecDepth 100000 in
set_option maxHeartbeats 2000000 in
theorem putInt_any (k : Int) (w : World) (hk1 : -4611686018427387903 ≤ k) (hk2 : k ≤ 4611686018427387903) :
    Calls Tryd.prog 12 #[.int .i64 k] w fun e W' => e = .returned (.tuple #[.string (strOfNums (enc (foldZ k))), .int .i64 0]) ∧ Below w.heap.size w W' := by
  refine (callsIn_wide (n := 3)).1 ?_
  have hwide : ∀ f, Fence.wide.fn f := fun _ => trivial
  have hro : Fence.wide.round = none := rfl
  have hb1 : decide (k < -4611686018427387903) = false := by simp; omega
  have hb2 : decide (4611686018427387903 < k) = false := by simp; omega
  have h1 : 1 ≤ 3 := by omega
  have z0 : 0 ≤ foldZ k := by unfold foldZ; split <;> omega
  have z1 : foldZ k ≤ 9223372036854775807 := by unfold foldZ; split <;> omega
  have hel := (enc_length (foldZ k)).1
  obtain ⟨i0, hi, hz0, hz1, hz2⟩ := info_parts infoU8
  refine callsIn_of_wp_marks Tryd.func12 rfl (hwide _) ?_ hro
  simp only [Tryd.ntmps12, List.size_toArray, List.length_cons, List.length_nil, Nat.reduceAdd, Nat.reduceSub, Array.replicate_succ, Array.replicate_zero, List.push_toArray, List.append_toArray, List.nil_append, List.cons_append]
  gi_wp2_with (first | (gi_at_call 24; refine (callsIn_wide.2 (fold_any _ _ hk1 hk2)).mono ?_; rintro e w' ⟨rfl, rfl⟩) | (gi_at_call 23; refine (groups_in _ _ (hwide _) hro _ _).mono ?_; rintro e w' ⟨rfl, rfl⟩))
  have bO := Boxed.new w 38 (.slice none 0 0)
  have bN := Boxed.new (w.alloc (.cells #[.slice none 0 0] 38)) 3 (.int .i64 (foldZ k))
  rw [World.size_alloc] at bN
  have hB0 : Below w.heap.size w ((w.alloc (.cells #[.slice none 0 0] 38)).alloc (.cells #[.int .i64 (foldZ k)] 3)) := ((Below.refl _ w).alloc (Nat.le_refl _) _).alloc (by simp) _
  refine wpIn_rangeFunc_ownG hro h1 (gf := 28) (lb := #[.pointer (some ⟨w.heap.size + 1, 0, none⟩)]) rfl (hwide _) (enters_of Tryd.func28 (by kernel_rfl) rfl)
    (groups_stops _ _ (hwide _) hro (by omega) (w.heap.size + 1) w.heap.size (foldZ k) z0 z1 _ (by simp) bN.cell) belowK_t (belowK_b (by simp; omega)) (Below.refl _ _) (fun _ => rfl)
    (fun pre W => (∃ v, Boxed W w.heap.size 38 v ∧ W.ownsRow w.heap.size 5 1 v pre.length (pre.map (Value.int .u8)) ∧ (v = .slice none 0 0 ↔ pre = [])) ∧ Below w.heap.size w W)
    (fun _ _ _ => False)
    (OwnFrom.and (Own.from (holdsRow_own w.heap.size w.heap.size 38 5 1 (fun pre => pre.length) (fun pre => pre.map (Value.int .u8)) (fun pre v => v = .slice none 0 0 ↔ pre = [])) _) (ownFrom_below (Nat.le_refl _) (by simp; omega)))
    (fun _ _ _ _ _ hs _ _ => hs)
    ⟨⟨_, bO.alloc _, World.ownsRow_nil _ _ _ _, by simp⟩, hB0⟩
    ?a1 ?assign ?body ?done ?stop
  case assign =>
    intro l x W K hK
    gi_wp2
    exact hK
  case body =>
    rintro l pre x W ⟨⟨v, hv, hrow, hnil⟩, hB⟩ hlt
    have hc := hv.cell
    gi_wp2_with (gi_at_builtin; refine wpListIn_append_own _ rfl _ _ 38 rfl w.heap.size 5 i0 (.int .u8 0) 1 1 Tryd.underlying38 hi hz0 hz1 hz2 rfl (by decide) _ _ _ rfl (hrow.alloc _) ⟨W.heap.size, 0, none⟩ 1 1 [.int .u8 x] rfl rfl (cell_one_new _ _ _) (by simp [Value.oneCell']) (by unfold maxLen; omega) (by omega) (by have := hB.size; simp; omega) ?_; intro v' w1 hown' hgrow _; obtain ⟨g', cap', rfl⟩ := ownsRow_succ hown'; obtain ⟨hv1, hv2, hr2, hk2, hb2⟩ := hv.appended (by decide) hrow hB.size (Nat.le_refl _) hown' hgrow; have hc1 := hv1.cell; have hf1 := hv1.frozen)
    exact ⟨hk2.from _, hb2, ⟨_, hv2, by simpa using hr2, by simp⟩, hB.trans hb2⟩
  case done =>
    rintro D ys W hD rfl ⟨⟨v, hv, hrow, hnil⟩, hB⟩ hK
    have hc := hv.cell
    have hcv := conv_row rfl hrow
    gi_wp2
    refine ⟨by simp, .inl ⟨_, _, rfl, run_takeDeferred hK, ?_⟩⟩
    exact ⟨_, by simp [results, Tryd.results12, go_sem], rfl, hB.trans (belowK_b (w := w) (Nat.le_refl _) W D _ _ (by simp at hD; omega) hK rfl rfl)⟩
  case stop =>
    rintro D c pre W _ _ h _
    exact h.elim
end Go.Proofs.YtemdfbnfpdfpeaaDoor
