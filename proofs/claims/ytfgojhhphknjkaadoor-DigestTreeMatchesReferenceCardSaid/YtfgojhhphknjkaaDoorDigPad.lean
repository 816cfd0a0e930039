/- The padding. -/
import Derived.Test.YtfgojhhphknjkaaDoorDigWord
import Derived.Laws.MakeOwn
import Derived.Laws.AppendOwn
import Derived.Laws.OwnMore
import Derived.RangeFuncBox
import Derived.OwnWalkIn
namespace Go.Proofs.YtfgojhhphknjkaaDoor
open Go.RowKit

theorem infoU8 : (Tryd.prog.info? 5).map (fun i => (i.zero, i.size, i.bytes)) = some (some (.int .u8 0), 1, 1) := by kernel_rfl

theorem own_le {W : World} {base : Nat} {e : TypeId} {size : Nat} {v : Value} {k : Nat} {xs : List Value} (h : W.ownsRow base e size v k xs) : ∀ j, v.ownBlock = some j → base ≤ j := by
  intro j hj
  rcases h.2 with ⟨rfl, _⟩ | ⟨g, cap, cur, rfl, hb, _⟩
  · cases hj
  · cases hj; exact hb

/-- The i-th byte of the length. -/
def lenB (n i : Nat) : Nat := 8 * n / 2 ^ (8 * (7 - i)) % 256
def lens (n k : Nat) : List Nat := (List.range k).map (lenB n)
theorem lens_succ (n k : Nat) : lens n (k + 1) = lens n k ++ [lenB n k] := by simp [lens, List.range_succ]
theorem padL_eq (n : Nat) : padL n = 128 :: (List.replicate ((119 - n % 64) % 64) 0 ++ lens n 8) := by simp [padL, lens, lenB, List.range_succ]

theorem strOf_u8s {W : World} {n₀ k : Nat} {v : Value} {xs : List Nat} (hk : k = xs.length) (h : W.ownsRow n₀ 5 1 v k (u8s xs)) :
    (convert 40 9 v).run Tryd.prog W = .ok (.string (strOfNums (xs.map fun x : Nat => (x : Int)))) W := by
  have h' := h
  rcases h.2 with ⟨rfl, h0⟩ | ⟨g, cap, cur, rfl, _⟩
  · rw [run_convert_bytes_nil W 40 5 Tryd.underlying40 Tryd.underlying5 _ _ _ Tryd.underlying9]
    have : xs = [] := by
      cases xs with
      | nil => rfl
      | cons => simp at hk; omega
    subst this; rfl
  · refine run_convert_bytes_arg W 40 5 Tryd.underlying40 Tryd.underlying5 _ _ _ _ (xs.map fun x : Nat => (x : Int)) (by simpa using hk.symm) (fun i hi => ?_) _ Tryd.underlying9
    have := h'.cellAt (j := i) (by omega)
    rw [Nat.zero_add, this, u8s_get (by omega)]
    have hi' : i < xs.length := by omega
    simp [List.getD_eq_getElem?_getD, List.getElem?_eq_getElem hi']

theorem made72 : madeCells (Value.int .u8 0).cells (72 * 1) = (u8s (List.replicate 72 0)).toArray := by kernel_rfl

set_option maxRecDepth 100000 in
set_option maxHeartbeats 2000000 in
theorem padding_any (n : Nat) (hn : n ≤ 1152921504606846975) (w : World) :
    Calls Tryd.prog 50 #[.int .i64 n] w fun e w' => e = .returned (.string (strOfNums ((padL n).map fun x : Nat => (x : Int)))) ∧ Below w.heap.size w w' := by
  obtain ⟨i0, hi, hz0, hz1, hz2⟩ := info_parts infoU8
  obtain ⟨z, hz, hz64, hzi⟩ : ∃ z : Nat, Hid (z = (119 - n % 64) % 64) ∧ z < 64 ∧ ((119 : Int) - (n : Int) % 64) % 64 = (z : Int) := ⟨(119 - n % 64) % 64, Lib.hid rfl, by omega, by omega⟩
  have hmk : ∀ W : World, (Instr.makeSlice 40 (.int .i64 (1 + (z : Int))) (.int .i64 72)).run Tryd.prog W = .ok (.slice (some ⟨W.heap.size, 0, none⟩) (1 + z) 72) (W.alloc (.cells (u8s (List.replicate 72 0)).toArray 5)) := fun W => by
    have h := run_make (P := Tryd.prog) W 40 5 i0 (.int .u8 0) Tryd.underlying40 hi hz0 .i64 .i64 (1 + (z : Int)) 72 (by omega) (by omega) (by rw [hz2]; omega) (by omega)
    rw [hz1, show (72 : Int).toNat = 72 from rfl, made72] at h
    rw [h, show (1 + (z : Int)).toNat = 1 + z by omega]
  generalize hcs : (u8s (List.replicate 72 0)).toArray = cs at *
  have A0 := fun W : World => (show Arr (W.alloc (.cells cs 5)) W.heap.size 5 (u8s (List.replicate 72 0)) by rw [← hcs]; exact Arr.new W _ _)
  have c0 := fun W : World => (A0 W).cell (i := 0) (v := .int .u8 0) rfl
  have f0 := fun W : World => (A0 W).frozen 0
  have i1 : (0 : Int) < 1 + (z : Int) := by omega
  go_enter Tryd.func50, Tryd.ntmps50
  go_wp2_with fail
  have own0 : (w.alloc (.cells (cs.setIfInBounds 0 (.int .u8 128)) 5)).ownsRow w.heap.size 5 1 (.slice (some ⟨w.heap.size, 0, none⟩) (1 + z) 72) (1 + z) (u8s (128 :: (List.replicate z 0 ++ lens n 0))) := by
    refine ⟨by simp [u8s, lens]; omega, .inr ⟨w.heap.size, 72, _, rfl, Nat.le_refl _, heap_alloc_new _ _, by omega, by unfold maxLen; omega, by rw [← hcs]; simp [u8s], ?_⟩⟩
    rw [← hcs]
    simp only [u8s, List.setIfInBounds_toArray, List.map_replicate]
    rw [show 72 = 71 + 1 from rfl, List.replicate_succ, List.set_cons_zero, show (1 + z) * 1 = z + 1 by omega, List.take_succ_cons, List.take_replicate, show min z 71 = z by omega]
    simp [lens]
  have hB0 : Below w.heap.size w (w.alloc (.cells (cs.setIfInBounds 0 (.int .u8 128)) 5)) := (Below.refl _ w).alloc (Nat.le_refl _) _
  clear hmk A0 c0 f0 i1
  generalize w.alloc (.cells (cs.setIfInBounds 0 (.int .u8 128)) 5) = w0 at *
  clear hcs
  rw [hzi]
  clear hzi
  go_loopw [4, 19] (fun v i wr => ∃ k : Nat, i = .int .i64 k ∧ k ≤ 8 ∧ wr.ownsRow w.heap.size 5 1 v (1 + z + k) (u8s (128 :: (List.replicate z 0 ++ lens n k))) ∧ Below w.heap.size w wr) (fun _ i _ => 8 - (intOf i).toNat)
  case atStart => exact ⟨0, rfl, by omega, own0, hB0⟩
  case round =>
    clear own0 hB0
    obtain ⟨k, rfl, hk, own, hB⟩ := hrel
    by_cases hk8 : k < 8
    · obtain ⟨y, hy, Hy⟩ : ∃ y : Nat, 8 * (n : Int) / 2 ^ (8 * (7 - k)) % 256 = (y : Int) ∧ Hid (y = lenB n k) := by
        refine ⟨lenB n k, ?_, Lib.hid rfl⟩
        unfold lenB; rw [Int.natCast_emod, Int.natCast_ediv, Int.natCast_mul, Int.natCast_pow]; rfl
      go_wp2_with (at_builtin; refine wpList_append_own _ rfl _ _ 40 rfl w.heap.size 5 i0 (.int .u8 0) 1 1 Tryd.underlying40 hi hz0 hz1 hz2 rfl (by decide) _ _ _ rfl (own.alloc _) ⟨wr.heap.size, 0, none⟩ 1 1 [.int .u8 y] rfl rfl (cell_one_new _ _ _) (by simp [Value.oneCell']) (by unfold maxLen; omega) (by omega) (by have := hB.size; simp; omega) ?_; intro v' w1 hown' hgrow _)
      have hle := own_le own
      go_roundw
      case rel =>
        refine ⟨k + 1, by go_num, by omega, ?_, (hB.alloc hB.size _).grown hgrow (by have := hB.size; simp; omega) hle⟩
        rw [lens_succ, ← Hy.out]
        simpa [u8s, Nat.add_assoc] using hown'
      case measure => simp [intOf]; omega
    · have e8 : k = 8 := by omega
      have own8 : wr.ownsRow w.heap.size 5 1 u4 (1 + z + k) (u8s (padL n)) := by rw [padL_eq, ← hz.out, ← e8]; exact own
      have hcv := strOf_u8s (by rw [padL_eq, ← hz.out]; simp [lens]; omega) own8
      go_wp2
      go_ret
      exact ⟨rfl, hB⟩
end Go.Proofs.YtfgojhhphknjkaaDoor
