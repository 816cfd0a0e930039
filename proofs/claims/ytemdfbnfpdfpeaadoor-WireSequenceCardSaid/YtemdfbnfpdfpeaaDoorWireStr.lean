/- PutInt, Int, PutString and String for all arguments. -/
import Derived.Test.YtemdfbnfpdfpeaaDoorWirePut
import Derived.Test.YtemdfbnfpdfpeaaDoorWireInt
import Derived.Test.YtemdfbnfpdfpeaaDoorWireClone
namespace Go.Proofs.YtemdfbnfpdfpeaaDoor
open Go.RowKit

def putIntZ (k : Int) : ByteArray × Int := if -4611686018427387903 ≤ k ∧ k ≤ 4611686018427387903 then (strOfNums (enc (foldZ k)), 0) else (⟨#[]⟩, 10)
def putStringZ (s : ByteArray) : ByteArray × Int := if 65536 < s.size then (⟨#[]⟩, 10) else (strOfNums (enc (2 * (s.size : Int))) ++ s, 0)
def stringZ (s : ByteArray) (k : Int) : ByteArray × Int × Int :=
  let r := intZ s k
  if r.2.2 ≠ 0 then (⟨#[]⟩, 0, r.2.2) else
  if r.1 < 0 ∨ 65536 < r.1 ∨ (s.size : Int) - r.2.1 < r.1 then (⟨#[]⟩, 0, 10) else
  (s.extract r.2.1.toNat (r.2.1 + r.1).toNat, r.2.1 + r.1, 0)

theorem decG_zero (j : Nat) (a : Int) (l : List UInt8) : decG 0 j a l = none := by cases l <;> rfl
theorem decG_nil (f j : Nat) (a : Int) : decG f j a [] = none := by cases f <;> rfl
theorem decG_bd (f : Nat) : ∀ (j : Nat) (a : Int) (l : List UInt8) (z : Int) (n : Nat), decG f j a l = some (z, n) → 0 ≤ a → 0 ≤ z ∧ z ≤ 9223372036854775806 ∧ j + 1 ≤ n ∧ n ≤ j + l.length := by
  induction f with
  | zero => intro j a l z n h; rw [decG_zero] at h; cases h
  | succ f ih =>
    intro j a l z n h h0
    cases l with
    | nil => rw [decG_nil] at h; cases h
    | cons b r =>
      rw [decG_cons] at h
      have hp : 0 ≤ (b.toNat : Int) % 128 * 128 ^ j := Int.mul_nonneg (by omega) (Int.le_of_lt (Int.pow_pos (by decide)))
      obtain ⟨d, hd⟩ : ∃ d, d = (b.toNat : Int) % 128 * 128 ^ j := ⟨_, rfl⟩
      rw [← hd] at h hp
      split at h
      · split at h
        · cases h
        · simp only [Option.some.injEq, Prod.mk.injEq] at h
          obtain ⟨rfl, rfl⟩ := h
          simp only [List.length_cons]; omega
      · have := ih (j + 1) _ r z n h (by omega)
        simp only [List.length_cons]; omega
theorem dec_bd {l : List UInt8} {z : Int} {n : Nat} (h : dec l = some (z, n)) : 0 ≤ z ∧ z ≤ 9223372036854775806 ∧ 1 ≤ n ∧ n ≤ l.length := by
  have := decG_bd 9 0 0 l z n h (by omega); omega

theorem intZ_cases (s : ByteArray) (k : Int) : (intZ s k = (0, 0, 2) ∧ (k < 0 ∨ (s.size : Int) < k)) ∨ (intZ s k = (0, 0, 10) ∧ 0 ≤ k ∧ k ≤ s.size ∧ dec (s.data.toList.drop k.toNat) = none) ∨
    (∃ z n, intZ s k = (unfoldZ z, k + (n : Nat), 0) ∧ 0 ≤ k ∧ dec (s.data.toList.drop k.toNat) = some (z, n) ∧ 0 ≤ z ∧ z ≤ 9223372036854775806 ∧ 1 ≤ n ∧ k + (n : Nat) ≤ s.size) := by
  unfold intZ
  by_cases h : k < 0 ∨ (s.size : Int) < k
  · left; rw [if_pos h]; exact ⟨rfl, h⟩
  · rw [if_neg h]
    cases hd : dec (s.data.toList.drop k.toNat) with
    | none => right; left; exact ⟨rfl, by omega, by omega, rfl⟩
    | some p =>
      obtain ⟨z, n⟩ := p
      right; right
      have := dec_bd hd
      simp at this
      exact ⟨z, n, rfl, by omega, rfl, by omega, by omega, by omega, by omega⟩

theorem unfoldZ_bd {z : Int} (h0 : 0 ≤ z) (h1 : z ≤ 9223372036854775806) : -4611686018427387903 ≤ unfoldZ z ∧ unfoldZ z ≤ 4611686018427387903 := by unfold unfoldZ; split <;> omega

set_option maxHeartbeats 400000 in
theorem putInt_all (k : Int) (w : World) (h1 : -9223372036854775808 ≤ k) (h2 : k ≤ 9223372036854775807) :
    Calls Tryd.prog 12 #[.int .i64 k] w fun e w' => e = .returned (.tuple #[.string (putIntZ k).1, .int .i64 (putIntZ k).2]) ∧ Below w.heap.size w w' := by
  by_cases h : -4611686018427387903 ≤ k ∧ k ≤ 4611686018427387903
  · have : putIntZ k = (strOfNums (enc (foldZ k)), 0) := if_pos h
    rw [this]
    exact putInt_any k w h.1 h.2
  · have : putIntZ k = (⟨#[]⟩, 10) := if_neg h
    rw [this]
    clear this
    by_cases hlo : k < -4611686018427387903
    · go_enter Tryd.func12, Tryd.ntmps12
      go_wp2
      go_ret2
      exact ⟨rfl, Below.refl _ _⟩
    · have hhi : 4611686018427387903 < k := by omega
      clear h
      go_enter Tryd.func12, Tryd.ntmps12
      go_wp2
      go_ret2
      exact ⟨rfl, Below.refl _ _⟩

set_option maxHeartbeats 400000 in
theorem int_all (s : ByteArray) (k : Int) (w : World) (hs : s.size ≤ 140737488351232) (h1 : -9223372036854775808 ≤ k) (h2 : k ≤ 9223372036854775807) :
    Calls Tryd.prog 15 #[.string s, .int .i64 k] w fun e w' => e = .returned (.tuple #[.int .i64 (intZ s k).1, .int .i64 (intZ s k).2.1, .int .i64 (intZ s k).2.2]) ∧ w = w' := by
  by_cases h : k < 0
  · have hz : intZ s k = (0, 0, 2) := if_pos (.inl h)
    rw [hz]; clear hz
    go_enter Tryd.func15, Tryd.ntmps15
    go_wp2
    go_ret3
    exact ⟨rfl, rfl⟩
  · obtain ⟨n, rfl⟩ := Int.eq_ofNat_of_zero_le (show 0 ≤ k by omega)
    by_cases h' : s.size < n
    · have hz : intZ s n = (0, 0, 2) := if_pos (.inr (by omega))
      rw [hz]; clear hz
      go_enter Tryd.func15, Tryd.ntmps15
      go_wp2
      go_ret3
      exact ⟨rfl, rfl⟩
    · exact int_in s n w hs (by omega)

set_option maxRecDepth 100000 in
set_option maxHeartbeats 400000 in
theorem putString_all (s : ByteArray) (w : World) (hs : s.size ≤ 140737488351232) :
    Calls Tryd.prog 19 #[.string s] w fun e w' => e = .returned (.tuple #[.string (putStringZ s).1, .int .i64 (putStringZ s).2]) ∧ Below w.heap.size w w' := by
  by_cases h : 65536 < s.size
  · have : putStringZ s = (⟨#[]⟩, 10) := if_pos h
    rw [this]; clear this
    go_enter Tryd.func19, Tryd.ntmps19
    go_wp2
    go_ret2
    exact ⟨rfl, Below.refl _ _⟩
  · have : putStringZ s = (strOfNums (enc (2 * (s.size : Int))) ++ s, 0) := if_neg h
    rw [this]; clear this
    have hz : foldZ (s.size : Int) = 2 * s.size := by unfold foldZ; rw [if_neg (by omega)]
    have Hz := Lib.hid hz; clear hz
    have hsz : (strOfNums (enc (foldZ (s.size : Int)))).size ≤ 9 := by rw [strOfNums_size]; exact (enc_length _).1
    go_enter Tryd.func19, Tryd.ntmps19
    go_wp2_with (go_at_call 12; refine (putInt_any _ _ (by omega) (by omega)).mono ?_; rintro e w' ⟨rfl, hb⟩)
    go_ret2
    exact ⟨by rw [Hz.out]; rfl, hb⟩
set_option maxHeartbeats 1000000 in
theorem string_all (s : ByteArray) (k : Int) (w : World) (hs : s.size ≤ 140737488351232) (h1 : -9223372036854775808 ≤ k) (h2 : k ≤ 9223372036854775807) :
    Calls Tryd.prog 17 #[.string s, .int .i64 k] w fun e w' => e = .returned (.tuple #[.string (stringZ s k).1, .int .i64 (stringZ s k).2.1, .int .i64 (stringZ s k).2.2]) ∧ Below w.heap.size w w' := by
  have hi := int_all s k w hs h1 h2
  rcases intZ_cases s k with ⟨hz, -⟩ | ⟨hz, -⟩ | ⟨z, n, hz, hk0, -, hz0, hz1, hn, hle⟩
  · have hq : stringZ s k = (⟨#[]⟩, 0, 2) := by unfold stringZ; rw [hz]; rfl
    rw [hq]; rw [hz] at hi
    clear hz hq
    go_enter Tryd.func17, Tryd.ntmps17
    go_wp2_with (go_at_call 15; refine hi.mono ?_; rintro e w' ⟨rfl, rfl⟩)
    go_ret3
    exact ⟨rfl, Below.refl _ _⟩
  · have hq : stringZ s k = (⟨#[]⟩, 0, 10) := by unfold stringZ; rw [hz]; rfl
    rw [hq]; rw [hz] at hi
    clear hz hq
    go_enter Tryd.func17, Tryd.ntmps17
    go_wp2_with (go_at_call 15; refine hi.mono ?_; rintro e w' ⟨rfl, rfl⟩)
    go_ret3
    exact ⟨rfl, Below.refl _ _⟩
  · have hb := unfoldZ_bd hz0 hz1
    obtain ⟨a, rfl⟩ := Int.eq_ofNat_of_zero_le hk0
    by_cases hbad : unfoldZ z < 0 ∨ 65536 < unfoldZ z ∨ (s.size : Int) - ((a : Int) + (n : Nat)) < unfoldZ z
    · have hq : stringZ s a = (⟨#[]⟩, 0, 10) := by unfold stringZ; rw [hz]; simp only []; rw [if_neg (by simp), if_pos hbad]
      rw [hq]; rw [hz] at hi
      clear hz hq
      generalize unfoldZ z = v at *
      by_cases b1 : v < 0
      · go_enter Tryd.func17, Tryd.ntmps17
        go_wp2_with (go_at_call 15; refine hi.mono ?_; rintro e w' ⟨rfl, rfl⟩)
        go_ret3
        exact ⟨rfl, Below.refl _ _⟩
      · by_cases b2 : 65536 < v
        · go_enter Tryd.func17, Tryd.ntmps17
          go_wp2_with (go_at_call 15; refine hi.mono ?_; rintro e w' ⟨rfl, rfl⟩)
          go_ret3
          exact ⟨rfl, Below.refl _ _⟩
        · have b3 : (s.size : Int) - ((a : Int) + (n : Nat)) < v := by omega
          clear hbad
          go_enter Tryd.func17, Tryd.ntmps17
          go_wp2_with (go_at_call 15; refine hi.mono ?_; rintro e w' ⟨rfl, rfl⟩)
          go_ret3
          exact ⟨rfl, Below.refl _ _⟩
    · have b1 : 0 ≤ unfoldZ z := by omega
      obtain ⟨m, hm⟩ := Int.eq_ofNat_of_zero_le b1
      have b2 : m ≤ 65536 := by omega
      have b3 : a + n + m ≤ s.size := by omega
      have hq : stringZ s a = (s.extract (a + n) (a + n + m), (a : Int) + (n : Nat) + (m : Nat), 0) := by
        unfold stringZ; rw [hz]; simp only []; rw [if_neg (by simp), if_neg hbad, hm, show ((a : Int) + (n : Nat)).toNat = a + n by omega, show ((a : Int) + (n : Nat) + (m : Nat)).toNat = a + n + m by omega]
      rw [hq]; rw [hz, hm] at hi
      clear hz hq hm b1 hbad hb
      go_enter Tryd.func17, Tryd.ntmps17
      go_wp2_with (first | (go_at_call 15; refine hi.mono ?_; rintro e w' ⟨rfl, rfl⟩) | (go_at_call 27; refine (clone_any _ _ (by rw [ByteArray.size_extract]; omega)).mono ?_; rintro e w' ⟨rfl, hb⟩))
      go_ret3
      exact ⟨rfl, hb⟩
end Go.Proofs.YtemdfbnfpdfpeaaDoor
