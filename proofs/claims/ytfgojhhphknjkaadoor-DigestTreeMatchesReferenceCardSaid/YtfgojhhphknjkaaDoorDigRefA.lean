/- The reference implementation's SHA-256: rotations and the string with what is added. -/
import Derived.Test.YtfgojhhphknjkaaDoorDigSched
import Derived.Test.YtfgojhhphknjkaaDoorDigPad
import Derived.Deep.QuietTactic
import Derived.BigQuiet
import Derived.Deep.RegionHeld3
import Derived.Deep.AppendLies
import Derived.Maps.AppendAt
namespace Go.Proofs.YtfgojhhphknjkaaDoor
open Go.RowKit

set_option maxHeartbeats 400000 in
theorem rrot_any (x n : Nat) (hx : x < 4294967296) (h1 : 1 ≤ n) (h2 : n ≤ 31) (w : World) :
    Calls Tryd.prog 54 #[.int .u32 x, .int .i64 n] w fun e w' => e = .returned (.int .u32 (rotr x n : Nat)) ∧ ∃ q, w' = w.drewN q := by
  obtain ⟨m, hm⟩ : ∃ m : Nat, m + n = 32 := ⟨32 - n, by omega⟩
  have e1 : IntKind.i64.wrap (32 - (n : Int)) = (m : Int) := by rw [show (32 : Int) - (n : Int) = (m : Int) by omega]; simp [IntKind.wrap, IntKind.bits, IntKind.signed]; omega
  go_enter Tryd.func54, Tryd.ntmps54
  go_wp2_with fail
  go_quiet (fail)
  go_wp2_with fail
  go_ret
  refine ⟨ret_int ?_, nq, rfl⟩
  obtain rfl : m = 32 - n := by omega
  rw [show ((x : Int) * 2 ^ (32 - n) % 4294967296) = ((x * 2 ^ (32 - n) % 4294967296 : Nat) : Int) by rw [Int.natCast_emod, Int.natCast_mul, Int.natCast_pow]; rfl, show ((x : Int) / 2 ^ n) = ((x / 2 ^ n : Nat) : Int) by rw [Int.natCast_ediv, Int.natCast_pow]; rfl,
    u32_or_nat _ _ (Nat.lt_of_le_of_lt (Nat.div_le_self _ _) hx) (Nat.mod_lt _ (by decide)), Nat.or_comm]
  rfl

theorem rbyte_at {s : ByteArray} {k : Nat} (h : k < s.size) : (s[k]'h).toNat = (s.data.toList.map UInt8.toNat).getD k 0 := by
  have h' : k < s.data.toList.length := by simpa using h
  rw [List.getD_eq_getElem?_getD, List.getElem?_map, List.getElem?_eq_getElem h']
  simp [ByteArray.getElem_eq_getElem_data]
theorem take_succ_getD {l : List Nat} {k : Nat} (h : k < l.length) : l.take (k + 1) = l.take k ++ [l.getD k 0] := by
  rw [List.take_add_one, List.getElem?_eq_getElem h, List.getD_eq_getElem?_getD, List.getElem?_eq_getElem h]; rfl
def lenV : Value → Nat
  | .slice _ n _ => n
  | _ => 0

set_option maxRecDepth 100000 in
set_option maxHeartbeats 2000000 in
theorem rext_any (s : ByteArray) (hs : s.size ≤ 140737488351232) (w : World) :
    Calls Tryd.prog 45 #[.string s] w fun e w' => (∃ v, e = .returned v ∧ w'.ownsRow w.heap.size 5 1 v (s.size + (padL s.size).length) (u8s (s.data.toList.map UInt8.toNat ++ padL s.size))) ∧ Below w.heap.size w w' := by
  obtain ⟨i0, hi, hz0, hz1, hz2⟩ := info_parts infoU8
  obtain ⟨L, hL⟩ : ∃ L, s.data.toList.map UInt8.toNat = L := ⟨_, rfl⟩
  have hLl : L.length = s.size := by rw [← hL]; simp
  have hby := fun k (h : k < s.size) => rbyte_at h
  rw [hL] at hby ⊢
  obtain ⟨J, hJ⟩ : ∃ J : Nat, J = (119 - s.size % 64) % 64 := ⟨_, rfl⟩
  have hPL : padL s.size = 128 :: (List.replicate J 0 ++ lens s.size 8) := by rw [padL_eq, hJ]
  have HP := Lib.hid hPL
  have HJ := Lib.hid hJ
  have HBY := Lib.hid hby
  clear hL hJ hPL hby
  go_enter Tryd.func45, Tryd.ntmps45
  go_wp2_with fail
  go_loopw [3, 4] (fun v i wr => ∃ k : Nat, i = .int .i64 k ∧ k ≤ s.size ∧ wr.ownsRow w.heap.size 5 1 v k (u8s (L.take k)) ∧ Below w.heap.size w wr) (fun _ i _ => s.size - (intOf i).toNat)
  case atStart => exact ⟨0, rfl, Nat.zero_le _, World.ownsRow_nil _ _ _ _, Below.refl _ _⟩
  case round =>
    obtain ⟨k, rfl, hk, own, hB⟩ := hrel
    by_cases hlt : k < s.size
    · have hb := HBY.out k hlt
      obtain ⟨y, hy⟩ : ∃ y, L.getD k 0 = y := ⟨_, rfl⟩
      have Hy := Lib.hid (show u8s (L.take (k + 1)) = u8s (L.take k) ++ [.int .u8 (y : Nat)] by rw [take_succ_getD (by omega), hy]; simp [u8s])
      rw [hy] at hb
      have i1 : (0 : Int) ≤ (k : Int) := by omega
      have i2 : (k : Int) < (s.size : Int) := by omega
      clear hy
      go_wp2_with (at_builtin; refine wpList_append_own _ rfl _ _ 40 rfl w.heap.size 5 i0 (.int .u8 0) 1 1 Tryd.underlying40 hi hz0 hz1 hz2 rfl (by decide) _ _ _ rfl (own.alloc _) ⟨wr.heap.size, 0, none⟩ 1 1 [.int .u8 y] rfl rfl (cell_one_new _ _ _) (by simp [Value.oneCell']) (by unfold maxLen; omega) (by omega) (by have := hB.size; simp; omega) ?_; intro v' w1 hown' hgrow _)
      have hle := own_le own
      go_roundw
      case rel =>
        refine ⟨k + 1, by go_num, by omega, ?_, (hB.alloc hB.size _).grown hgrow (by have := hB.size; simp; omega) hle⟩
        rw [Hy.out]
        exact hown'
      case measure => simp [intOf]; omega
    · obtain rfl : k = s.size := by omega
      rw [show L.take s.size = L by rw [← hLl, List.take_length]] at own
      have hszr := hB.size
      go_wp2_with (at_builtin; refine wpList_append_own _ rfl _ _ 40 rfl w.heap.size 5 i0 (.int .u8 0) 1 1 Tryd.underlying40 hi hz0 hz1 hz2 rfl (by decide) _ _ _ rfl (own.alloc _) ⟨wr.heap.size, 0, none⟩ 1 1 [.int .u8 128] rfl rfl (cell_one_new _ _ _) (by simp [Value.oneCell']) (by unfold maxLen; omega) (by omega) (by simp; omega) ?_; intro v1 w1 own1 hgrow1 _)
      have hB1 := (hB.alloc hszr (.cells #[.int .u8 128] 5)).grown hgrow1 (by simp; omega) (own_le own)
      have own1' : w1.ownsRow w.heap.size 5 1 v1 (s.size + 1 + 0) (u8s (L ++ 128 :: List.replicate 0 0)) := by simpa [u8s] using own1
      clear own1 own hB hgrow1 hszr hlt hk
      go_wp2_with fail
      go_loopw [3] (fun v wr => ∃ (j : Nat) (vv : Value), vv = v ∧ j ≤ J ∧ wr.ownsRow w.heap.size 5 1 vv (s.size + 1 + j) (u8s (L ++ 128 :: List.replicate j 0)) ∧ Below w.heap.size w wr) (fun v _ => s.size + 100 - lenV v)
      case atStart => exact ⟨0, _, rfl, Nat.zero_le _, own1', hB1⟩
      case round =>
        clear own1' hB1
        obtain ⟨j, vv, hvv, hj, own, hB⟩ := hrel
        subst hvv
        have hJo := HJ.out
        have hszr := hB.size
        obtain ⟨N, hN⟩ : ∃ N, s.size + 1 + j = N := ⟨_, rfl⟩
        rw [hN] at own
        obtain ⟨g, cap, rfl⟩ : ∃ g cap, vv = .slice (some ⟨g, 0, none⟩) N cap := by
          rcases own.2 with ⟨rfl, h0⟩ | ⟨g, cap, cur, rfl, _⟩
          · omega
          · exact ⟨g, cap, rfl⟩
        obtain ⟨r, hr⟩ : ∃ r, N % 64 = r := ⟨_, rfl⟩
        have e1 : (N : Int) % 64 = (r : Int) := by omega
        have e2 : (N : Int).tmod 64 = (r : Int) := by rw [Int.tmod_eq_emod_of_nonneg (by omega)]; exact e1
        have e3 : IntKind.i64.wrap (r : Int) = (r : Int) := by simp [IntKind.wrap, IntKind.bits, IntKind.signed]; omega
        have hNN : N ≤ 140737488351400 := by omega
        by_cases hjJ : j < J
        · have f1 : ((r : Int) != 56) = true := by rw [bne_iff_ne]; omega
          have f2 : (r != 56) = true := by rw [bne_iff_ne]; omega
          have HN := Lib.hid hN
          have HR := Lib.hid hr
          clear hN hJo hr
          go_wp2_with (at_builtin; refine wpList_append_own _ rfl _ _ 40 rfl w.heap.size 5 i0 (.int .u8 0) 1 1 Tryd.underlying40 hi hz0 hz1 hz2 rfl (by decide) _ _ _ rfl (own.alloc _) ⟨wr.heap.size, 0, none⟩ 1 1 [.int .u8 0] rfl rfl (cell_one_new _ _ _) (by simp [Value.oneCell']) (by unfold maxLen; omega) (by omega) (by simp; omega) ?_; intro v' w2 hown' hgrow _)
          have hle := own_le own
          go_roundw
          case rel =>
            refine ⟨j + 1, _, rfl, by omega, ?_, (hB.alloc hB.size _).grown hgrow (by have := hB.size; simp; omega) hle⟩
            rw [show s.size + 1 + (j + 1) = N + 1 by have := HN.out; omega, show u8s (L ++ 128 :: List.replicate (j + 1) 0) = u8s (L ++ 128 :: List.replicate j 0) ++ [.int .u8 0] by simp [u8s, List.replicate_succ']]
            exact hown'
          case measure =>
            have h1 : lenV v' = N + 1 := by
              rcases hown'.2 with ⟨rfl, h0⟩ | ⟨g', cap', cur', rfl, _⟩
              · omega
              · rfl
            simp only [lenV] at h1 ⊢
            have := HN.out
            have := HJ.out
            omega
        · have f1 : ((r : Int) != 56) = false := by rw [bne_eq_false_iff_eq]; omega
          have f2 : (r != 56) = false := by rw [bne_eq_false_iff_eq]; omega
          obtain rfl : j = J := by omega
          have HN := Lib.hid hN
          have own0 : wr.ownsRow w.heap.size 5 1 (.slice (some ⟨g, 0, none⟩) N cap) (N + 0) (u8s (L ++ 128 :: (List.replicate j 0 ++ lens s.size 0))) := by simpa [lens] using own
          clear hN hJo hr own
          go_wp2_with fail
          go_loopw [3, 5] (fun v iv wr => ∃ (t : Nat) (vv : Value) (iz : Int), vv = v ∧ iv = .int .i64 iz ∧ iz = 7 - (t : Int) ∧ t ≤ 8 ∧ wr.ownsRow w.heap.size 5 1 vv (N + t) (u8s (L ++ 128 :: (List.replicate j 0 ++ lens s.size t))) ∧ Below w.heap.size w wr) (fun _ iv _ => (intOf iv + 1).toNat)
          case atStart => exact ⟨0, _, 7, rfl, rfl, by omega, by omega, own0, hB⟩
          case round =>
            clear own0 hB
            obtain ⟨t, vv, iz, hvv, rfl, hiz, ht, own, hB⟩ := hrel
            subst hvv
            have hszr := hB.size
            by_cases ht8 : t < 8
            · obtain ⟨q, rfl⟩ : ∃ q : Nat, iz = (q : Int) := ⟨7 - t, by omega⟩
              have hq7 : q ≤ 7 := by omega
              have i1 : (0 : Int) ≤ (q : Int) := by omega
              obtain ⟨y, hy, Hy⟩ : ∃ y : Nat, 8 * (s.size : Int) / 2 ^ (8 * q) % 256 = (y : Int) ∧ Hid (y = lenB s.size t) := by
                refine ⟨lenB s.size t, ?_, Lib.hid rfl⟩
                unfold lenB; rw [show 7 - t = q by omega, Int.natCast_emod, Int.natCast_ediv, Int.natCast_mul, Int.natCast_pow]; rfl
              have HZ := Lib.hid hiz
              clear hiz
              go_wp2_with (at_builtin; refine wpList_append_own _ rfl _ _ 40 rfl w.heap.size 5 i0 (.int .u8 0) 1 1 Tryd.underlying40 hi hz0 hz1 hz2 rfl (by decide) _ _ _ rfl (own.alloc _) ⟨wr.heap.size, 0, none⟩ 1 1 [.int .u8 y] rfl rfl (cell_one_new _ _ _) (by simp [Value.oneCell']) (by unfold maxLen; omega) (by omega) (by simp; omega) ?_; intro v' w2 hown' hgrow _)
              have hle := own_le own
              go_roundw
              case rel =>
                refine ⟨t + 1, _, _, rfl, rfl, by have := HZ.out; omega, by omega, ?_, (hB.alloc hB.size _).grown hgrow (by have := hB.size; simp; omega) hle⟩
                rw [lens_succ, ← Hy.out]
                simpa [u8s, Nat.add_assoc] using hown'
              case measure => simp [intOf] <;> omega
            · have e9 : t = 8 := by omega
              have i1 : ¬ (0 : Int) ≤ iz := by omega
              have i2 : iz < 0 := by omega
              go_wp2
              go_ret
              refine ⟨⟨_, rfl, ?_⟩, hB⟩
              subst e9
              rw [HP.out, show s.size + (128 :: (List.replicate j 0 ++ lens s.size 8)).length = N + 8 by have := HN.out; simp [lens]; omega]
              exact own
end Go.Proofs.YtfgojhhphknjkaaDoor
