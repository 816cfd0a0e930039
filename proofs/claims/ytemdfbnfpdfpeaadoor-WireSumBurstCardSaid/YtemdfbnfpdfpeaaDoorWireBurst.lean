/- WireSumBurst's walk. -/
import Derived.Test.YtemdfbnfpdfpeaaDoorWireBits
import Derived.Lib.ConvBytes
namespace Go.Proofs.YtemdfbnfpdfpeaaDoor
open Go.RowKit

/-- The burst, as far as it has been laid after i rounds. -/
def laidBits (b : Nat) : Nat → Nat
  | 0 => 0
  | i + 1 => laidBits b i ^^^ b / 2 ^ i % 2 * 2 ^ i
theorem laidBits_lt (b i : Nat) : laidBits b i < 2 ^ i := by
  induction i with
  | zero => exact Nat.one_pos
  | succ i ih =>
    have h := Nat.two_pow_pos i
    refine Nat.xor_lt_two_pow (by rw [Nat.pow_succ]; omega) ?_
    have : b / 2 ^ i % 2 = 0 ∨ b / 2 ^ i % 2 = 1 := by omega
    rcases this with h2 | h2 <;> rw [h2, Nat.pow_succ] <;> omega
theorem laidBits_set {b i : Nat} (h : b / 2 ^ i % 2 = 1) : laidBits b (i + 1) ≠ 0 := by
  intro h0
  rw [laidBits, h, Nat.one_mul] at h0
  have := xor_eq h0
  have := laidBits_lt b i
  omega
theorem laidBits_skip {b i : Nat} (h : b / 2 ^ i % 2 ≠ 1) : laidBits b (i + 1) = laidBits b i := by
  rw [laidBits, show b / 2 ^ i % 2 = 0 by omega, Nat.zero_mul, Nat.xor_zero]
theorem xor_mulPow (x y f : Nat) : (x ^^^ y) * 2 ^ f = x * 2 ^ f ^^^ y * 2 ^ f := by
  have h := Nat.shiftLeft_xor_distrib (a := x) (b := y) (i := f)
  simpa [Nat.shiftLeft_eq] using h
theorem pow_split (m : Nat) : 2 ^ (m % 8) * 256 ^ (m / 8) = 2 ^ m := by
  rw [show (256 : Nat) = 2 ^ 8 from rfl, ← Nat.pow_mul, ← Nat.pow_add, show m % 8 + 8 * (m / 8) = m by omega]
theorem byteBit {k : Nat} (hk : k < 8) : (UInt8.ofNat (2 ^ k)).toNat = 2 ^ k := by
  rw [UInt8.toNat_ofNat']; exact Nat.mod_eq_of_lt (Nat.lt_of_lt_of_le (Nat.pow_lt_pow_right (by decide) hk) (by decide))

theorem xor_pow {v m : Nat} (hv : v < 256) (hm : m < 8) : bits .xor .u8 (v : Int) (2 ^ m % 256) = ((v ^^^ 2 ^ m : Nat) : Int) := by
  have e : ((2 : Int) ^ m % 256) = ((2 ^ m : Nat) : Int) := by
    have : m = 0 ∨ m = 1 ∨ m = 2 ∨ m = 3 ∨ m = 4 ∨ m = 5 ∨ m = 6 ∨ m = 7 := by omega
    rcases this with rfl | rfl | rfl | rfl | rfl | rfl | rfl | rfl <;> rfl
  rw [e, u8_xor_nat v (2 ^ m) hv (Nat.lt_of_lt_of_le (Nat.pow_lt_pow_right (by decide) hm) (by decide))]

/-- What '[]byte(x)' leaves: a new row of the bytes, not frozen; nothing that lay has turned. -/
theorem conv_bytes (W : World) (x : ByteArray) : ∃ cp W', (convert 9 38 (.string x)).run Tryd.prog W = .ok (.slice (some ⟨W.heap.size, 0, none⟩) x.size cp) W' ∧ Below W.heap.size W W' ∧ W.heap.size < W'.heap.size ∧
    (∀ j, j < x.size → W'.cell? ⟨W.heap.size, j, none⟩ = some (.int .u8 (x.data.toList.getD j 0).toNat) ∧ W'.frozen? ⟨W.heap.size, j, none⟩ = false) := by
  refine ⟨_, _, Lib.run_convert_string_bytes (P := Tryd.prog) W 9 38 5 x Tryd.underlying9 Tryd.underlying38 Tryd.underlying5, ?_, ?_, fun j hj => ⟨Lib.bytesWorld_cell W _ x j hj, ?_⟩⟩
  · exact ⟨rfl, rfl, rfl, by rw [Lib.bytesWorld_size]; omega, fun k hk => Lib.bytesWorld_at_old W _ x k hk⟩
  · rw [Lib.bytesWorld_size]; omega
  · simp only [World.frozen?, Lib.bytesWorld_at_new]
    have : j < (Lib.bytesCells W 5 x).size := by simp [Lib.bytesCells]; omega
    simp; omega

set_option maxRecDepth 100000 in
set_option maxHeartbeats 4000000 in
theorem burst_any (s : ByteArray) (at' : Int) (b : Nat) (w : World) (hs : s.size ≤ 140737488351232) (h1 : -9223372036854775808 ≤ at') (h2 : at' ≤ 9223372036854775807) (hb : b < 4294967296)
    (hT : TabAt w) (h0 : 0 < w.heap.size) :
    Calls Tryd.prog 8 #[.string s, .int .i64 at', .int .u32 b] w fun e w' => e = .returned (.bool true) ∧ Below w.heap.size w w' := by
  have HT := Lib.hid hT; clear hT
  go_enter Tryd.func8, Tryd.ntmps8
  go_wp2_with fail
  refine (sane_any _ HT.out h0).mono ?_; rintro e w1 ⟨rfl, b1⟩
  obtain ⟨x, hx⟩ : ∃ x, x = s.extract 0 (min (s.size : Int) 300).toNat := ⟨_, rfl⟩
  have hxs : x.size ≤ 300 ∧ x.size ≤ s.size := by rw [hx, ByteArray.size_extract]; omega
  have hxe : Hid (s.extract 0 x.size = x) := by
    refine Lib.hid (ba_ext ?_)
    rw [hx]
    simp only [extract_list, List.drop_zero, ByteArray.size_extract]
    rw [List.take_eq_take_iff]; simp
  obtain ⟨cp, w2, hcv, b2, z2, hcells⟩ := conv_bytes w1 x
  rw [hx] at hcv
  have Hx := Lib.hid hx
  rw [← hx] at hcv
  obtain ⟨n, hn⟩ : ∃ n, n = x.size := ⟨_, rfl⟩
  rw [← hn] at hcv hxe hcells hxs
  rw [hx] at hcv
  have Hn := Lib.hid hn
  have Hcells := Lib.hid hcells
  clear hx hn hcells
  by_cases hn0 : n = 0
  · subst hn0
    go_wp2
    go_ret
    exact ⟨rfl, bthen b1 b2⟩
  · have e1 : ((n : Int) == 0) = false := by simp only [beq_eq_false_iff_ne]; omega
    have e2 : (n == 0) = false := by simp only [beq_eq_false_iff_ne]; omega
    by_cases hb0 : b = 0
    · subst hb0
      go_wp2
      go_ret
      exact ⟨rfl, bthen b1 b2⟩
    · have e3 : ((b : Int) == 0) = false := by simp only [beq_eq_false_iff_ne]; omega
      have e4 : (b == 0) = false := by simp only [beq_eq_false_iff_ne]; omega
      have pb := pickZ_bd at' (8 * (n : Int)) (by omega)
      obtain ⟨f, hf⟩ := Int.eq_ofNat_of_zero_le pb.1
      have hf1 : f < 8 * n := by omega
      have hp := pick_any at' (8 * (n : Int)) w2 h1 h2 (by omega) (by omega)
      rw [hf] at hp
      clear pb hf
      go_wp2_with (go_at_call 14; refine hp.mono ?_; rintro e w' ⟨rfl, rfl⟩)
      clear hp hcv
      go_loopw [10, 11] (fun ch i wr => ∃ (k : Nat) (xs : List UInt8) (c : Bool), i = .int .i64 k ∧ ch = .bool c ∧ k ≤ 32 ∧ f + k ≤ 8 * n ∧ Hid (xs.length = n) ∧ Hid (leNum xs = leNum x.data.toList ^^^ laidBits b k * 2 ^ f) ∧ Hid (c = decide (laidBits b k ≠ 0)) ∧
        Hid (∀ j, j < n → wr.cell? ⟨w1.heap.size, j, none⟩ = some (.int .u8 (xs.getD j 0).toNat) ∧ wr.frozen? ⟨w1.heap.size, j, none⟩ = false) ∧ Below w1.heap.size w1 wr) (fun _ i _ => 32 - (intOf i).toNat)
      case atStart =>
        exact ⟨0, x.data.toList, false, rfl, rfl, by omega, by omega, Lib.hid (by rw [Hn.out, size_list]), Lib.hid (by simp [laidBits, Nat.mod_one]), Lib.hid (by simp [laidBits, Nat.mod_one]), Hcells, b2⟩
      case round =>
        obtain ⟨k, xs, c, rfl, rfl, hk, hfk, Hl, Hle, Hc, Hcell, hbw⟩ := hrel
        clear Hcells b2
        by_cases hlt : k < 32 ∧ f + k < 8 * n
        · obtain ⟨hk2, hfk2⟩ := hlt
          obtain ⟨q, hq, Hq⟩ : ∃ q : Nat, (b : Int) / 2 ^ k = (q : Int) ∧ Hid (q = b / 2 ^ k) := ⟨b / 2 ^ k, by simp, Lib.hid rfl⟩
          obtain ⟨hce, hfr⟩ := Hcell.out ((f + k) / 8) (by omega)
          obtain ⟨v, hv⟩ : ∃ v : Nat, (xs.getD ((f + k) / 8) 0).toNat = v := ⟨_, rfl⟩
          rw [hv] at hce
          have Hv := Lib.hid hv
          clear hv
          have hm8 : (f + k) % 8 < 8 := by omega
          have hv1 : v < 256 := by rw [← Hv.out]; exact UInt8.toNat_lt _
          have hxv := xor_pow hv1 hm8
          obtain ⟨y, hy⟩ : ∃ y : Nat, v ^^^ 2 ^ ((f + k) % 8) = y := ⟨_, rfl⟩
          rw [hy] at hxv
          have Hy := Lib.hid hy
          clear hy
          by_cases hq1 : q % 2 = 1
          · have t1 : ((q : Int) % 2 == 1) = true := by simp only [beq_iff_eq]; omega
            have hbit : b / 2 ^ k % 2 = 1 := by rw [← Hq.out]; exact hq1
            have Hbit := Lib.hid hbit
            clear hbit
            go_wp2_with fail
            go_region
            go_wp2
            go_roundw
            case rel =>
              have hl := Hl.out
              have hi : (f + k) / 8 < xs.length := by omega
              have hg : xs.getD ((f + k) / 8) 0 = xs[(f + k) / 8] := by rw [List.getD_eq_getElem?_getD, List.getElem?_eq_getElem hi]; rfl
              refine ⟨k + 1, xs.set ((f + k) / 8) (xs[(f + k) / 8] ^^^ UInt8.ofNat (2 ^ ((f + k) % 8))), true, by go_num, rfl, by omega, by omega, Lib.hid (by rw [List.length_set]; exact hl), Lib.hid ?_, Lib.hid ?_, Lib.hid fun j hj => ?_, (hbw.setCell (p := ⟨w1.heap.size, (f + k) / 8, none⟩) (Nat.le_refl _) _).drew⟩
              · rw [leNum_set, Hle.out, byteBit hm8, pow_split, laidBits, Hbit.out, Nat.one_mul, xor_mulPow, Nat.xor_assoc, ← Nat.pow_add, Nat.add_comm k f]
              · simp [laidBits_set Hbit.out]
              · have hnew : (xs.set ((f + k) / 8) (xs[(f + k) / 8] ^^^ UInt8.ofNat (2 ^ ((f + k) % 8)))).getD j 0 = if j = (f + k) / 8 then xs[(f + k) / 8] ^^^ UInt8.ofNat (2 ^ ((f + k) % 8)) else xs.getD j 0 := by
                  by_cases e : j = (f + k) / 8
                  · rw [if_pos e, e, List.getD_eq_getElem?_getD, List.getElem?_set_self (by omega)]; rfl
                  · rw [if_neg e, List.getD_eq_getElem?_getD, List.getElem?_set_ne (by omega), ← List.getD_eq_getElem?_getD]
                rw [hnew]
                refine ⟨?_, ?_⟩
                · by_cases e : j = (f + k) / 8
                  · subst e
                    rw [if_pos rfl, UInt8.toNat_xor, byteBit hm8, ← hg, Hv.out, Hy.out]
                    exact World.cell?_setCell_same' _ _ _ (by rw [hce]; rfl)
                  · rw [if_neg e]
                    have hne : (⟨w1.heap.size, (f + k) / 8, none⟩ : Addr) ≠ ⟨w1.heap.size, j, none⟩ := fun h => e (by simpa using h.symm)
                    exact (World.cell?_setCell_other (h := hne) ..).trans (Hcell.out j hj).1
                · exact (World.frozen?_setCell ..).trans (Hcell.out j hj).2
            case measure => simp [intOf]; omega
          · have t1 : ((q : Int) % 2 == 1) = false := by simp only [beq_eq_false_iff_ne]; omega
            have hbit : b / 2 ^ k % 2 ≠ 1 := by rw [← Hq.out]; exact hq1
            have Hbit := Lib.hid hbit
            clear hbit
            go_wp2
            go_roundw
            case rel => exact ⟨k + 1, xs, c, by go_num, rfl, by omega, by omega, Hl, Lib.hid (by rw [laidBits_skip Hbit.out]; exact Hle.out), Lib.hid (by rw [laidBits_skip Hbit.out]; exact Hc.out), Hcell, hbw⟩
            case measure => simp [intOf]; omega
        · have hdone : decide ((k : Int) < 32) = false ∨ decide ((f : Int) + k < 8 * n) = false := by
            by_cases h : k < 32
            · right; simp; omega
            · left; simp; omega
          have hTr : TabAt wr := HT.out.below (bthen b1 hbw) h0
          have hl := Hl.out
          have hz : (strOfNums (xs.map fun c => (c.toNat : Int))).data.toList = xs := by
            rw [strOfNums_data, List.map_map]
            exact List.map_id'' (fun c => by simp) xs
          have hcv := fun (m : Nat) => run_convert_bytes_arg (P := Tryd.prog) (wr.drewN m) 38 5 Tryd.underlying38 Tryd.underlying5 w1.heap.size 0 n cp (xs.map fun c => (c.toNat : Int)) (by rw [List.length_map]; exact hl)
            (fun i hi => by
              have := (Hcell.out i hi).1
              rw [Nat.zero_add]
              refine Eq.trans this ?_
              simp only [List.getD_eq_getElem?_getD, List.getElem?_map, List.getElem?_eq_getElem (show i < xs.length by omega), Option.map_some, Option.getD_some]) 9 Tryd.underlying9
          have Q0 := fun m => sumQ (strOfNums (xs.map fun c => (c.toNat : Int))) wr m (by rw [strOfNums_size, List.length_map]; omega) hTr
          have Q1 := fun m => sumQ (s.extract 0 n) wr m (by rw [ByteArray.size_extract]; omega) hTr
          rw [hz] at Q0
          rw [hxe.out] at Q1
          have hbu := burst x.data.toList xs (laidBits b k) f (by rw [hl, Hn.out, size_list]) (Nat.lt_of_lt_of_le (laidBits_lt b k) (show 2 ^ k ≤ 2 ^ 32 from Nat.pow_le_pow_right (by decide) hk)) (by rw [← size_list, ← Hn.out]; omega) Hle.out
          generalize strOfNums (xs.map fun c => (c.toNat : Int)) = B at *
          generalize crcSum xs = R at *
          generalize crcSum x.data.toList = X at *
          have Hbu := Lib.hid hbu
          have Hxe := hxe.out
          clear hz hl hbu hxe Hx Hle Hl
          by_cases he : laidBits b k = 0
          · obtain rfl : c = false := by rw [Hc.out]; simp [he]
            obtain rfl : R = X := Hbu.out.2 he
            have He := Lib.hid he
            clear he Hc Hbu
            rcases hdone with hdone | hdone
            all_goals
              go_wp2_with fail
              all_goals
                go_quiet ((go_at_call 21; first | with_reducible exact Q0 _ | with_reducible exact Q1 _))
                go_wp2
                go_ret
                exact ⟨rfl, below_drewN (bthen b1 hbw) _⟩
          · obtain rfl : c = true := by rw [Hc.out]; simp [he]
            have hne : R ≠ X := fun h => he (Hbu.out.1 h)
            have n1 : ((R : Int) == (X : Int)) = false := by simp only [beq_eq_false_iff_ne]; omega
            have n3 : ((R : Int) != (X : Int)) = true := by rw [bne_iff_ne]; omega
            have n2 : (R == X) = false := by simp only [beq_eq_false_iff_ne]; exact hne
            have He := Lib.hid he
            clear he Hc Hbu
            rcases hdone with hdone | hdone
            all_goals
              go_wp2_with fail
              all_goals
                go_quiet ((go_at_call 21; first | with_reducible exact Q0 _ | with_reducible exact Q1 _))
                go_wp2
                go_ret
                exact ⟨rfl, below_drewN (bthen b1 hbw) _⟩
theorem burst_int (s : ByteArray) (at' b : Int) (w : World) (hs : s.size ≤ 140737488351232) (h1 : -9223372036854775808 ≤ at') (h2 : at' ≤ 9223372036854775807) (hb0 : 0 ≤ b) (hb : b ≤ 4294967295)
    (hT : TabAt w) (h0 : 0 < w.heap.size) :
    Calls Tryd.prog 8 #[.string s, .int .i64 at', .int .u32 b] w fun e w' => e = .returned (.bool true) ∧ Below w.heap.size w w' := by
  obtain ⟨n, rfl⟩ := Int.eq_ofNat_of_zero_le hb0
  exact burst_any s at' n w hs h1 h2 (by omega) hT h0
end Go.Proofs.YtemdfbnfpdfpeaaDoor
