/- The schedule of a block's words. -/
import Derived.Test.YtfgojhhphknjkaaDoorDigWord
namespace Go.Proofs.YtfgojhhphknjkaaDoor
open Go.RowKit

theorem or_nat {x y z : Nat} (hx : x < 4294967296) (hy : y < 4294967296) (h : z = x ||| y) : bits .or .u32 (x : Int) (y : Int) = (z : Int) := by rw [h]; exact u32_or_nat x y hx hy
theorem xor_nat {x y z : Nat} (hx : x < 4294967296) (hy : y < 4294967296) (h : z = x ^^^ y) : bits .xor .u32 (x : Int) (y : Int) = (z : Int) := by rw [h]; exact u32_xor_nat x y hx hy

theorem info64 : (Tryd.prog.info? 74).map (·.size) = some 64 := by kernel_rfl

set_option maxRecDepth 100000 in
set_option maxHeartbeats 2000000 in
theorem schedule_any (b : List Nat) (hb : b.length = 64) (hlt : ∀ x ∈ b, x < 256) (w : World) :
    Calls Tryd.prog 58 #[.agg (u8s b).toArray] w fun e w' => e = .returned (.agg (u32s (wordsR b 64).reverse).toArray) ∧ Below w.heap.size w w' := by
  have Hlt := Lib.hid hlt; clear hlt
  have A0 : Hid (∀ cs, cs = (u8s b).toArray → ∀ x y, Arr (((w.alloc (.cells cs 65)).alloc (.cells x 74)).alloc (.cells y 74)) w.heap.size 65 (u8s b)) := Lib.hid fun cs h x y => by
    subst h; exact ((Arr.new w _ _).alloc _).alloc _
  generalize hcs : (u8s b).toArray = cs at *
  go_enter Tryd.func58, Tryd.ntmps58
  go_wp2
  go_loopw [11] (fun i wr => ∃ k : Nat, i = .int .i64 k ∧ k ≤ 16 ∧ Arr wr w.heap.size 65 (u8s b) ∧ Arr wr (w.heap.size + 1) 74 (u32s (List.replicate 64 0)) ∧ Arr wr (w.heap.size + 1 + 1) 74 (u32s ((wordsR b k).reverse ++ List.replicate (64 - k) 0)) ∧ Below w.heap.size w wr) (fun i _ => 16 - (intOf i).toNat)
  case atStart =>
    refine ⟨0, rfl, by omega, A0.out _ rfl _ _, ?_, ?_, ?_⟩
    · exact (Arr.new' _ (u32s (List.replicate 64 0)) (by simp)).alloc _
    · exact Arr.new' _ (u32s (List.replicate 64 0)) (by simp)
    · exact (((Below.refl _ w).alloc (Nat.le_refl _) _).alloc (by simp) _).alloc (by simp; omega) _
  case round =>
    obtain ⟨k, rfl, hk, a1, a2, a3, hB⟩ := hrel
    clear A0
    by_cases hlt : k < 16
    · obtain ⟨m, hm, hm1⟩ : ∃ m : Nat, m = 4 * k ∧ m ≤ 60 := ⟨_, rfl, by omega⟩
      have hm' : ((4 * k : Nat) : Int) = (m : Int) := by omega
      have x0 := a1.cell (u8s_get (l := b) (i := m) (by omega))
      have x1 := a1.cell (u8s_get (l := b) (i := m + 1) (by omega))
      have x2 := a1.cell (u8s_get (l := b) (i := m + 2) (by omega))
      have x3 := a1.cell (u8s_get (l := b) (i := m + 3) (by omega))
      have l0 := getD_lt Hlt.out (by decide) m
      have l1 := getD_lt Hlt.out (by decide) (m + 1)
      have l2 := getD_lt Hlt.out (by decide) (m + 2)
      have l3 := getD_lt Hlt.out (by decide) (m + 3)
      have HW : Hid (wordAt b k = b.getD m 0 * 16777216 ||| b.getD (m + 1) 0 * 65536 ||| b.getD (m + 2) 0 * 256 ||| b.getD (m + 3) 0) := Lib.hid (by rw [hm]; rfl)
      generalize b.getD m 0 = y0 at *
      generalize b.getD (m + 1) 0 = y1 at *
      generalize b.getD (m + 2) 0 = y2 at *
      generalize b.getD (m + 3) 0 = y3 at *
      have s0 : (y0 : Int) * 16777216 % 4294967296 = ((y0 * 16777216 : Nat) : Int) := by omega
      have s1 : (y1 : Int) * 65536 % 4294967296 = ((y1 * 65536 : Nat) : Int) := by omega
      have s2 : (y2 : Int) * 256 % 4294967296 = ((y2 * 256 : Nat) : Int) := by omega
      go_wp2_with fail
      rw [show (4 * (k : Int)) = (m : Int) by omega]
      clear hm' hm
      have i0 : (0 : Int) ≤ (m : Int) := by omega
      have i1 : (m : Int) + 3 < 64 := by omega
      have i2 : (m : Int) < 64 := by omega
      have i3 : (k : Int) < 64 := by omega
      obtain ⟨v3, c3⟩ : ∃ v, wr.cell? ⟨w.heap.size + 1 + 1, k, none⟩ = some v := ⟨_, a3.cell (List.getElem?_eq_getElem (by simp [u32s, wordsR_len]; omega))⟩
      have f3 := a3.frozen k
      have o1 : bits .or .u32 ((y0 : Int) * 16777216) ((y1 : Int) * 65536) = _ := or_nat (x := y0 * 16777216) (y := y1 * 65536) (by omega) (by omega) rfl
      have b1 : (y0 * 16777216 ||| y1 * 65536) < 4294967296 := Nat.or_lt_two_pow (n := 32) (by omega) (by omega)
      generalize (y0 * 16777216 ||| y1 * 65536) = z1 at *
      have o2 : bits .or .u32 (z1 : Int) ((y2 : Int) * 256) = _ := or_nat (x := z1) (y := y2 * 256) (by omega) (by omega) rfl
      have b2 : (z1 ||| y2 * 256) < 4294967296 := Nat.or_lt_two_pow (n := 32) (by omega) (by omega)
      generalize (z1 ||| y2 * 256) = z2 at *
      have o3 := or_nat (x := z2) (y := y3) (by omega) (by omega) rfl
      generalize (z2 ||| y3) = z3 at *
      go_region
      clear x0 x1 x2 x3 c3 f3
      go_wp2
      go_roundw
      case rel =>
        refine ⟨k + 1, by go_num, by omega, (a1.set_other _ _ (by omega)).drew, (a2.set_other _ _ (by omega)).drew, ?_, (hB.setCell (by show _ ≤ w.heap.size + 1 + 1; omega) _).drew⟩
        have := a3.set k (.int .u32 (z3 : Int))
        rw [show 64 - k = (64 - (k + 1)) + 1 by omega, set_snoc _ _ k (by simp [wordsR_len])] at this
        rw [show (wordsR b (k + 1)).reverse = (wordsR b k).reverse ++ [z3] by rw [← HW.out, wordsR]; simp [hlt]]
        exact this
      case measure => simp [intOf]; omega
    · have e16 : k = 16 := by omega
      have a4 : Arr wr (w.heap.size + 1 + 1) 74 (u32s ((wordsR b 16).reverse ++ List.replicate (64 - 16) 0)) := e16 ▸ a3
      clear a3 e16
      generalize hk0 : k = k0 at *
      clear hk0 k
      go_wp2_with fail
      go_loopw [6] (fun i wr => ∃ k : Nat, i = .int .i64 k ∧ 16 ≤ k ∧ k ≤ 64 ∧ Arr wr (w.heap.size + 1) 74 (u32s (List.replicate 64 0)) ∧ Arr wr (w.heap.size + 1 + 1) 74 (u32s ((wordsR b k).reverse ++ List.replicate (64 - k) 0)) ∧ Below w.heap.size w wr) (fun i _ => 64 - (intOf i).toNat)
      case atStart => exact ⟨16, rfl, by omega, by omega, a2, a4, hB⟩
      case round =>
        clear a1 a2 a4 hB
        obtain ⟨k, rfl, hk', hk2, a2, a3, hB⟩ := hrel
        by_cases hlt : k < 64
        · have g := fun (j : Nat) (hj : j < k) => a3.cell (i := j) (u32s_get (l := (wordsR b k).reverse ++ List.replicate (64 - k) 0) (by simp [wordsR_len]; omega))
          have e := fun (j : Nat) (hj : j < k) => show ((wordsR b k).reverse ++ List.replicate (64 - k) 0).getD j 0 = (wordsR b k).getD (k - 1 - j) 0 by
            rw [List.getD_eq_getElem?_getD, List.getElem?_append_left (by simpa [wordsR_len] using hj), List.getElem?_reverse (by simpa [wordsR_len] using hj), wordsR_len, ← List.getD_eq_getElem?_getD]
          have x1 := g (k - 15) (by omega)
          have x2 := g (k - 2) (by omega)
          have x3 := g (k - 16) (by omega)
          have x4 := g (k - 7) (by omega)
          rw [e _ (by omega), show k - 1 - (k - 15) = 14 by omega] at x1
          rw [e _ (by omega), show k - 1 - (k - 2) = 1 by omega] at x2
          rw [e _ (by omega), show k - 1 - (k - 16) = 15 by omega] at x3
          rw [e _ (by omega), show k - 1 - (k - 7) = 6 by omega] at x4
          clear g e
          have l := fun i => getD_lt (wordsR_lt Hlt.out k) (by decide) i
          have l1 := l 14
          have l2 := l 1
          have l3 := l 15
          have l4 := l 6
          clear l
          have HW : Hid (nextW (wordsR b k) = ((((wordsR b k).getD 15 0 + sg0 ((wordsR b k).getD 14 0)) % 4294967296 + (wordsR b k).getD 6 0) % 4294967296 + sg1 ((wordsR b k).getD 1 0)) % 4294967296) := Lib.hid rfl
          generalize (wordsR b k).getD 14 0 = p at *
          generalize (wordsR b k).getD 1 0 = q at *
          generalize (wordsR b k).getD 15 0 = c at *
          generalize (wordsR b k).getD 6 0 = d at *
          obtain ⟨s, hs, hs1, Hs⟩ : ∃ s : Nat, bits .xor .u32 (bits .xor .u32 (rotr p 7 : Nat) (rotr p 18 : Nat)) ((p : Int) / 8) = (s : Int) ∧ s < 4294967296 ∧ Hid (s = sg0 p) := by
            refine ⟨sg0 p, ?_, Nat.xor_lt_two_pow (n := 32) (Nat.xor_lt_two_pow (n := 32) (rotr_lt l1) (rotr_lt l1)) (by omega), Lib.hid rfl⟩
            rw [xor_nat (rotr_lt l1) (rotr_lt l1) rfl, show (p : Int) / 8 = ((p / 8 : Nat) : Int) by omega]
            exact xor_nat (Nat.xor_lt_two_pow (n := 32) (rotr_lt l1) (rotr_lt l1)) (by omega) rfl
          obtain ⟨t, ht, ht1, Ht⟩ : ∃ s : Nat, bits .xor .u32 (bits .xor .u32 (rotr q 17 : Nat) (rotr q 19 : Nat)) ((q : Int) / 1024) = (s : Int) ∧ s < 4294967296 ∧ Hid (s = sg1 q) := by
            refine ⟨sg1 q, ?_, Nat.xor_lt_two_pow (n := 32) (Nat.xor_lt_two_pow (n := 32) (rotr_lt l2) (rotr_lt l2)) (by omega), Lib.hid rfl⟩
            rw [xor_nat (rotr_lt l2) (rotr_lt l2) rfl, show (q : Int) / 1024 = ((q / 1024 : Nat) : Int) by omega]
            exact xor_nat (Nat.xor_lt_two_pow (n := 32) (rotr_lt l2) (rotr_lt l2)) (by omega) rfl
          rw [← Hs.out, ← Ht.out] at HW
          have T1 := fun W => turned_any p 7 l1 (by omega) (by omega) W
          have T2 := fun W => turned_any p 18 l1 (by omega) (by omega) W
          have T3 := fun W => turned_any q 17 l2 (by omega) (by omega) W
          have T4 := fun W => turned_any q 19 l2 (by omega) (by omega) W
          have m1 : (k : Int) - 15 = ((k - 15 : Nat) : Int) := by omega
          have m2 : (k : Int) - 2 = ((k - 2 : Nat) : Int) := by omega
          have m3 : (k : Int) - 16 = ((k - 16 : Nat) : Int) := by omega
          have m4 : (k : Int) - 7 = ((k - 7 : Nat) : Int) := by omega
          have i1 : (0 : Int) ≤ ((k - 15 : Nat) : Int) := by omega
          have i2 : ((k - 15 : Nat) : Int) < 64 := by omega
          have i3 : (0 : Int) ≤ ((k - 2 : Nat) : Int) := by omega
          have i4 : ((k - 2 : Nat) : Int) < 64 := by omega
          have i5 : (0 : Int) ≤ ((k - 16 : Nat) : Int) := by omega
          have i6 : ((k - 16 : Nat) : Int) < 64 := by omega
          have i7 : (0 : Int) ≤ ((k - 7 : Nat) : Int) := by omega
          have i8 : ((k - 7 : Nat) : Int) < 64 := by omega
          have i9 : (k : Int) < 64 := by omega
          go_wp2_with fail
          go_region
          go_wp2_with (go_at_call 59; first | (refine (T1 _).mono ?_; rintro e w' ⟨rfl, rfl⟩) | (refine (T2 _).mono ?_; rintro e w' ⟨rfl, rfl⟩) | (refine (T3 _).mono ?_; rintro e w' ⟨rfl, rfl⟩) | (refine (T4 _).mono ?_; rintro e w' ⟨rfl, rfl⟩))
          clear T1 T2 T3 T4
          obtain ⟨v3, c3⟩ : ∃ v, wr.cell? ⟨w.heap.size + 1 + 1, k, none⟩ = some v := ⟨_, a3.cell (List.getElem?_eq_getElem (by simp [u32s, wordsR_len]; omega))⟩
          have f3 := a3.frozen k
          obtain ⟨z, hz, Hz⟩ : ∃ z : Nat, ((c : Int) + (s : Int) + (d : Int) + (t : Int)) % 4294967296 = (z : Int) ∧ Hid (nextW (wordsR b k) = z) := ⟨_, by rw [HW.out]; omega, Lib.hid rfl⟩
          go_region
          clear x1 x2 x3 x4 c3 f3
          go_wp2
          go_roundw
          case rel =>
            refine ⟨k + 1, by go_num, by omega, by omega, ((a2.drew).set_other _ _ (by omega)).drew, ?_, (hB.drew.setCell (by show _ ≤ w.heap.size + 1 + 1; omega) _).drew⟩
            have := a3.drew.set k (.int .u32 (z : Int))
            rw [show 64 - k = (64 - (k + 1)) + 1 by omega, set_snoc _ _ k (by simp [wordsR_len])] at this
            rw [show (wordsR b (k + 1)).reverse = (wordsR b k).reverse ++ [z] by rw [← Hz.out, wordsR]; simp [show ¬ k < 16 by omega]]
            exact this
          case measure => simp [intOf]; omega
        · have e64 : k = 64 := by omega
          have a4 : Arr wr (w.heap.size + 1 + 1) 74 (u32s (wordsR b 64).reverse) := by
            have := e64 ▸ a3; simpa using this
          clear a3
          have hlen : (u32s (wordsR b 64).reverse).toArray.size = 64 := by simp [u32s_len, wordsR_len]
          have hlen0 : (u32s (List.replicate 64 0)).toArray.size = (u32s (wordsR b 64).reverse).toArray.size := by simp [u32s_len, wordsR_len]
          have hi : (Tryd.prog.info? 74).map (·.size) = some (u32s (wordsR b 64).reverse).toArray.size := by rw [hlen, info64]
          have h1 := u32s_one (wordsR b 64).reverse
          generalize hws : (u32s (wordsR b 64).reverse).toArray = ws at *
          have a4' : wr.heap[w.heap.size + 1 + 1]? = some (.cells ws 74 (0, 0)) := hws ▸ a4
          clear a4
          go_wp2_with (first | (refine wpList_load_row rfl 74 _ rfl (w.heap.size + 1 + 1) rfl 74 ws (0, 0) _ a4' Tryd.underlying74 rfl hi ?_) | (refine wpList_store_row rfl 74 _ _ rfl (w.heap.size + 1) ws rfl rfl 74 _ a2 hi hlen0 h1 ?_))
          refine bodyPost_ret (v := .agg ws) ?_ rfl ⟨by rw [hws], below_setRow hB (by omega) _⟩
          exact results_cell_row rfl _ _ (w.heap.size + 1) 74 ws (0, 0) _ rfl (setRow_heap _ _ _ _ _ _ a2) Tryd.underlying74 rfl hi
end Go.Proofs.YtfgojhhphknjkaaDoor
