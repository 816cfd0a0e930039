/- The reference's Int and String: the same values. -/
import Derived.Test.YtemdfbnfpdfpeaaDoorWireRef
namespace Go.Proofs.YtemdfbnfpdfpeaaDoor
open Go.RowKit

theorem round_u64 (a c : Int) (j : Nat) (m v : Int) (hm : wrap64 (c % 128 * 2 ^ (j * 7)) = m) (hm0 : 0 ≤ m) (hm1 : m ≤ 9223372036854775807) (hv : v = a + c % 128 * 128 ^ j) (hj : j < 9) (hc0 : 0 ≤ c) :
    IntKind.u64.wrap (c % 128 * 2 ^ (7 * j)) = m ∧ a + m = v := by
  have hp : (128 : Int) ^ j * 128 ≤ 128 ^ 9 := by
    rw [← Int.pow_succ]
    have := Nat.pow_le_pow_right (show 0 < 128 by decide) (show j + 1 ≤ 9 by omega)
    have h2 : ((128 ^ (j + 1) : Nat) : Int) ≤ ((128 ^ 9 : Nat) : Int) := by omega
    simpa using h2
  have h9 : (128 : Int) ^ 9 = 9223372036854775808 := by decide
  have hd0 : 0 ≤ c % 128 := by omega
  have hd1 : c % 128 ≤ 127 := by omega
  have hp0 : 0 < (128 : Int) ^ j := Int.pow_pos (by decide)
  have hx0 : 0 ≤ c % 128 * 128 ^ j := Int.mul_nonneg hd0 (by omega)
  have hx1 : c % 128 * 128 ^ j ≤ 127 * 128 ^ j := Int.mul_le_mul_of_nonneg_right hd1 (by omega)
  rw [pow128, IntWalk.wrap64_in _ (by omega)] at hm
  rw [Nat.mul_comm 7 j, pow128, IntKind.wrap_u64, hm]
  exact ⟨by omega, by omega⟩

theorem take_put {s : ByteArray} {k n : Nat} {v : Int} (h : dec (s.data.toList.drop k) = some (v, n)) : s.extract k (k + n) = strOfNums (enc v) := by
  obtain ⟨_, _, h3⟩ := dec_inv h
  exact extract_eq (by omega) (by rw [Nat.add_sub_cancel_left]; exact h3)

theorem not_put {s : ByteArray} {k n : Nat} {v : Int} (h : dec (s.data.toList.drop k) = none) (h0 : 0 ≤ v) (h1 : v ≤ 9223372036854775806) : s.extract k (k + n) ≠ strOfNums (enc v) := by
  intro he
  have h2 := congrArg (fun b => b.data.toList) he
  simp only [extract_list, encS_list] at h2
  rw [List.drop_take, Nat.add_sub_cancel_left] at h2
  have h3 : s.data.toList.drop k = byt (enc v) ++ (s.data.toList.drop k).drop n := by rw [← h2, List.take_append_drop]
  rw [h3, dec_enc h0 h1] at h
  cases h

theorem putIntZ_unfold {v : Int} (h0 : 0 ≤ v) (h1 : v ≤ 9223372036854775806) : putIntZ (unfoldZ v) = (strOfNums (enc v), 0) := by
  have := unfoldZ_bd h0 h1
  unfold putIntZ
  rw [if_pos this, fold_unfold h0]

set_option maxRecDepth 100000 in
set_option maxHeartbeats 2000000 in
theorem refInt_in (s : ByteArray) (k : Nat) (w : World) (hs : s.size ≤ 140737488351232) (hk : k ≤ s.size) :
    Calls Tryd.prog 16 #[.string s, .int .i64 k] w fun e w' => e = .returned (.tuple #[.int .i64 (intZ s k).1, .int .i64 (intZ s k).2.1, .int .i64 (intZ s k).2.2]) ∧ Below w.heap.size w w' := by
  have hb1 : decide ((k : Int) < 0) = false := by simp
  have hb2 : decide (s.size < k) = false := by simp; omega
  go_enter Tryd.func16, Tryd.ntmps16
  go_wp2
  go_loop [7, 8] (fun z i => ∃ (j : Nat) (a : Int), i = .int .i64 j ∧ z = .int .u64 a ∧ j ≤ 9 ∧ k + j ≤ s.size ∧ 0 ≤ a ∧ a < 128 ^ j ∧ Hid (dec (s.data.toList.drop k) = decG (9 - j) j a (s.data.toList.drop (k + j)))) (fun _ i => 9 - (intOf i).toNat)
  case atStart => exact ⟨0, 0, rfl, rfl, by omega, by omega, by omega, by simp, Lib.hid rfl⟩
  case round =>
    obtain ⟨j, a, rfl, rfl, hj, hjk, ha0, ha1, H⟩ := hrel
    by_cases hlt : j < 9 ∧ k + j < s.size
    · obtain ⟨hj9, hjs⟩ := hlt
      obtain ⟨c, hc⟩ : ∃ c : Int, (s[k + j].toNat : Int) = c := ⟨_, rfl⟩
      have hc0 : 0 ≤ c := by omega
      have hc1 : c ≤ 255 := by have := s[k + j].toNat_lt; omega
      obtain ⟨m, v, hm, hm0, hm1, _, hv0, hv1, Hv, hv2⟩ := round_or a c j hj9 ha0 ha1 hc0
      have Hd : Hid (dec (s.data.toList.drop k) = if c < 128 then
          if (c = 0 ∧ 0 < j) ∨ 9223372036854775806 < v then none else some (v, j + 1)
          else decG (8 - j) (j + 1) v (s.data.toList.drop (k + j + 1))) := by
        refine Lib.hid ?_
        rw [H.out, drop_at s (k + j) (by omega), show 9 - j = (8 - j) + 1 by omega, decG_cons, hc, Hv.out]
      obtain ⟨hmu, hva⟩ := round_u64 a c j m v hm hm0 hm1 Hv.out hj9 hc0
      clear hm
      by_cases h128 : c < 128
      · -- the argument of PutInt, in the walk's spelling
        have hput : ∀ W : World, (v % 2 = 1 → Calls Tryd.prog 13 #[.int .i64 (-(v / 2) - 1)] W fun e w' => e = .returned (.tuple #[.string (putIntZ (unfoldZ v)).1, .int .i64 (putIntZ (unfoldZ v)).2]) ∧ Below W.heap.size W w') ∧
            (v % 2 ≠ 1 → Calls Tryd.prog 13 #[.int .i64 (v / 2)] W fun e w' => e = .returned (.tuple #[.string (putIntZ (unfoldZ v)).1, .int .i64 (putIntZ (unfoldZ v)).2]) ∧ Below W.heap.size W w') := fun W => by
          have h := refPutInt_all (unfoldZ v) W (by unfold unfoldZ; split <;> omega) (by unfold unfoldZ; split <;> omega)
          exact ⟨fun ho => by rwa [show unfoldZ v = -(v / 2) - 1 from if_pos ho] at h ⊢, fun ho => by rwa [show unfoldZ v = v / 2 from if_neg ho] at h ⊢⟩
        by_cases hbig : 9223372036854775806 < v
        · obtain rfl : v = 9223372036854775807 := by omega
          have hp := fun W => (hput W).1 (by decide)
          rw [show putIntZ (unfoldZ 9223372036854775807) = (⟨#[]⟩, 10) by kernel_rfl] at hp
          have hd : dec (s.data.toList.drop k) = none := by rw [Hd.out, if_pos h128, if_pos (Or.inr hbig)]
          have Hn := Lib.hid hd
          clear hput hd
          go_wp2_with fail
          refine (hp _).mono ?_; rintro e w1 ⟨rfl, hb⟩
          go_wp2
          go_ret3
          exact ⟨ret3 (by rw [intZ_none hk Hn.out]), hb⟩
        · rw [putIntZ_unfold hv0 (by omega)] at hput
          have hsz : (strOfNums (enc v)).size ≤ 9 := by rw [encS_size]; exact (enc_length v).1
          by_cases h0 : c = 0 ∧ 0 < j
          · have hd : dec (s.data.toList.drop k) = none := by rw [Hd.out, if_pos h128, if_pos (Or.inl h0)]
            have hne := not_put (n := j + 1) hd hv0 (by omega)
            have hne' : ((strOfNums (enc v)).toList == (s.extract k (k + j + 1)).toList) = false := by
              rw [beq_eq_false_iff_ne, ByteArray.toList_eq, ByteArray.toList_eq]; exact fun h => hne (ba_ext h.symm)
            have Hn := Lib.hid hd
            clear hd hne h0
            generalize strOfNums (enc v) = E at *
            by_cases ho : v % 2 = 1
            · have hp := fun W => (hput W).1 ho
              have t1 : (v % 2 == 1) = true := by simpa using ho
              clear hput
              go_wp2_with fail
              refine (hp _).mono ?_; rintro e w1 ⟨rfl, hb⟩
              go_wp2
              go_ret3
              exact ⟨ret3 (by rw [intZ_none hk Hn.out]), hb⟩
            · have hp := fun W => (hput W).2 ho
              have t1 : (v % 2 == 1) = false := by simpa using ho
              clear hput
              go_wp2_with fail
              refine (hp _).mono ?_; rintro e w1 ⟨rfl, hb⟩
              go_wp2
              go_ret3
              exact ⟨ret3 (by rw [intZ_none hk Hn.out]), hb⟩
          · have hd : dec (s.data.toList.drop k) = some (v, j + 1) := by rw [Hd.out, if_pos h128, if_neg (by omega)]
            have heq : s.extract k (k + j + 1) = strOfNums (enc v) := take_put hd
            have Hn := Lib.hid hd
            clear hd h0
            have hf := fun (x : Int) (hx : unfoldZ v = x) => intZ_some hk Hn.out
            generalize strOfNums (enc v) = E at *
            by_cases ho : v % 2 = 1
            · have hp := fun W => (hput W).1 ho
              have t1 : (v % 2 == 1) = true := by simpa using ho
              have Hu : Hid (unfoldZ v = -(v / 2) - 1) := Lib.hid (if_pos ho)
              clear hput hf
              go_wp2_with fail
              refine (hp _).mono ?_; rintro e w1 ⟨rfl, hb⟩
              go_wp2
              go_ret3
              exact ⟨ret3 (by rw [intZ_some hk Hn.out, Hu.out]; simp; omega), hb⟩
            · have hp := fun W => (hput W).2 ho
              have t1 : (v % 2 == 1) = false := by simpa using ho
              have Hu : Hid (unfoldZ v = v / 2) := Lib.hid (if_neg ho)
              clear hput hf
              go_wp2_with fail
              refine (hp _).mono ?_; rintro e w1 ⟨rfl, hb⟩
              go_wp2
              go_ret3
              exact ⟨ret3 (by rw [intZ_some hk Hn.out, Hu.out]; simp; omega), hb⟩
      · go_wp2
        go_round
        case rel => exact ⟨j + 1, v, by go_num, rfl, by omega, by omega, hv0, hv2, Lib.hid (by rw [Hd.out, if_neg (by omega), show 9 - (j + 1) = 8 - j by omega]; rfl)⟩
        case measure => simp [intOf]; omega
    · have hnone : Hid (dec (s.data.toList.drop k) = none) := by
        refine Lib.hid ?_
        rw [H.out]
        by_cases h9 : j = 9
        · subst h9; rfl
        · rw [List.drop_eq_nil_of_le (by simp; omega)]
          cases 9 - j <;> rfl
      have hsf : decide ((j : Int) < 9) = false ∨ decide ((k : Int) + j < s.size) = false := by
        by_cases h9 : j = 9
        · left; simp; omega
        · right; simp; omega
      rcases hsf with hsf | hsf
      all_goals
        go_wp2
        all_goals
          go_ret3
          exact ⟨ret3 (by rw [intZ_none hk hnone.out]), Below.refl _ _⟩
set_option maxHeartbeats 400000 in
theorem refInt_all (s : ByteArray) (k : Int) (w : World) (hs : s.size ≤ 140737488351232) (h1 : -9223372036854775808 ≤ k) (h2 : k ≤ 9223372036854775807) :
    Calls Tryd.prog 16 #[.string s, .int .i64 k] w fun e w' => e = .returned (.tuple #[.int .i64 (intZ s k).1, .int .i64 (intZ s k).2.1, .int .i64 (intZ s k).2.2]) ∧ Below w.heap.size w w' := by
  by_cases h : k < 0
  · have hz : intZ s k = (0, 0, 2) := if_pos (.inl h)
    rw [hz]; clear hz
    go_enter Tryd.func16, Tryd.ntmps16
    go_wp2
    go_ret3
    exact ⟨rfl, Below.refl _ _⟩
  · obtain ⟨n, rfl⟩ := Int.eq_ofNat_of_zero_le (show 0 ≤ k by omega)
    by_cases h' : s.size < n
    · have hz : intZ s n = (0, 0, 2) := if_pos (.inr (by omega))
      rw [hz]; clear hz
      go_enter Tryd.func16, Tryd.ntmps16
      go_wp2
      go_ret3
      exact ⟨rfl, Below.refl _ _⟩
    · exact refInt_in s n w hs (by omega)

set_option maxHeartbeats 1000000 in
theorem refString_all (s : ByteArray) (k : Int) (w : World) (hs : s.size ≤ 140737488351232) (h1 : -9223372036854775808 ≤ k) (h2 : k ≤ 9223372036854775807) :
    Calls Tryd.prog 18 #[.string s, .int .i64 k] w fun e w' => e = .returned (.tuple #[.string (stringZ s k).1, .int .i64 (stringZ s k).2.1, .int .i64 (stringZ s k).2.2]) ∧ Below w.heap.size w w' := by
  have hi := refInt_all s k w hs h1 h2
  rcases intZ_cases s k with ⟨hz, -⟩ | ⟨hz, -⟩ | ⟨z, n, hz, hk0, -, hz0, hz1, hn, hle⟩
  · have hq : stringZ s k = (⟨#[]⟩, 0, 2) := by unfold stringZ; rw [hz]; rfl
    rw [hq]; rw [hz] at hi
    clear hz hq
    go_enter Tryd.func18, Tryd.ntmps18
    go_wp2_with (go_at_call 16; refine hi.mono ?_; rintro e w' ⟨rfl, hbb⟩)
    go_ret3
    exact ⟨rfl, hbb⟩
  · have hq : stringZ s k = (⟨#[]⟩, 0, 10) := by unfold stringZ; rw [hz]; rfl
    rw [hq]; rw [hz] at hi
    clear hz hq
    go_enter Tryd.func18, Tryd.ntmps18
    go_wp2_with (go_at_call 16; refine hi.mono ?_; rintro e w' ⟨rfl, hbb⟩)
    go_ret3
    exact ⟨rfl, hbb⟩
  · have hb := unfoldZ_bd hz0 hz1
    obtain ⟨a, rfl⟩ := Int.eq_ofNat_of_zero_le hk0
    by_cases hbad : unfoldZ z < 0 ∨ 65536 < unfoldZ z ∨ (s.size : Int) - ((a : Int) + (n : Nat)) < unfoldZ z
    · have hq : stringZ s a = (⟨#[]⟩, 0, 10) := by unfold stringZ; rw [hz]; simp only []; rw [if_neg (by simp), if_pos hbad]
      rw [hq]; rw [hz] at hi
      clear hz hq
      generalize unfoldZ z = v at *
      by_cases b1 : v < 0
      · go_enter Tryd.func18, Tryd.ntmps18
        go_wp2_with (go_at_call 16; refine hi.mono ?_; rintro e w' ⟨rfl, hbb⟩)
        go_ret3
        exact ⟨rfl, hbb⟩
      · by_cases b2 : 65536 < v
        · go_enter Tryd.func18, Tryd.ntmps18
          go_wp2_with (go_at_call 16; refine hi.mono ?_; rintro e w' ⟨rfl, hbb⟩)
          go_ret3
          exact ⟨rfl, hbb⟩
        · have b3 : (s.size : Int) - ((a : Int) + (n : Nat)) < v := by omega
          clear hbad
          go_enter Tryd.func18, Tryd.ntmps18
          go_wp2_with (go_at_call 16; refine hi.mono ?_; rintro e w' ⟨rfl, hbb⟩)
          go_ret3
          exact ⟨rfl, hbb⟩
    · have b1 : 0 ≤ unfoldZ z := by omega
      obtain ⟨m, hm⟩ := Int.eq_ofNat_of_zero_le b1
      have b2 : m ≤ 65536 := by omega
      have b3 : a + n + m ≤ s.size := by omega
      have hq : stringZ s a = (s.extract (a + n) (a + n + m), (a : Int) + (n : Nat) + (m : Nat), 0) := by
        unfold stringZ; rw [hz]; simp only []; rw [if_neg (by simp), if_neg hbad, hm, show ((a : Int) + (n : Nat)).toNat = a + n by omega, show ((a : Int) + (n : Nat) + (m : Nat)).toNat = a + n + m by omega]
      rw [hq]; rw [hz, hm] at hi
      clear hz hq hm b1 hbad hb
      go_enter Tryd.func18, Tryd.ntmps18
      go_wp2_with (go_at_call 16; refine hi.mono ?_; rintro e w' ⟨rfl, hbb⟩)
      go_ret3
      exact ⟨rfl, hbb⟩
end Go.Proofs.YtemdfbnfpdfpeaaDoor
