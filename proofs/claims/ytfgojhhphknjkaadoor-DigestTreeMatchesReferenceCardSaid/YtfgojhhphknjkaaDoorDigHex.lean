/- hex, left, few. -/
import Derived.Test.YtfgojhhphknjkaaDoorDigVext
namespace Go.Proofs.YtfgojhhphknjkaaDoor
open Go.RowKit

def hexAll : ByteArray := ⟨#[48, 49, 50, 51, 52, 53, 54, 55, 56, 57, 97, 98, 99, 100, 101, 102]⟩
/-- A string's bytes in hexadecimal, the first k of them. -/
def hexZ (s : ByteArray) : Nat → ByteArray
  | 0 => ⟨#[]⟩
  | k + 1 => hexZ s k ++ hexAll.extract ((nb s).getD k 0 / 16) ((nb s).getD k 0 / 16 + 1) ++ hexAll.extract ((nb s).getD k 0 % 16) ((nb s).getD k 0 % 16 + 1)
theorem hexZ_size (s : ByteArray) : ∀ k, (hexZ s k).size ≤ 2 * k
  | 0 => Nat.le_refl _
  | k + 1 => by
    show (hexZ s k ++ _ ++ _).size ≤ _
    rw [ByteArray.size_append, ByteArray.size_append, ByteArray.size_extract, ByteArray.size_extract]
    have := hexZ_size s k; omega

theorem byte_at {s : ByteArray} {k : Nat} (h : k < s.size) : (s[k]'h).toNat = (nb s).getD k 0 := by
  unfold nb
  rw [List.getD_eq_getElem?_getD, List.getElem?_map]
  have : s.data.toList[k]? = some (s[k]'h) := by
    rw [List.getElem?_eq_getElem (by simpa using h)]; rfl
  rw [this]; rfl

set_option maxRecDepth 100000 in
set_option maxHeartbeats 2000000 in
theorem hex_any (s : ByteArray) (w : World) (hs : s.size ≤ 1000) :
    Calls Tryd.prog 30 #[.string s] w fun e w' => e = .returned (.string (hexZ s s.size)) ∧ Below w.heap.size w w' := by
  go_enter Tryd.func30, Tryd.ntmps30
  go_wp2
  go_loopw [3, 4] (fun o i wr => ∃ k : Nat, i = .int .i64 k ∧ k ≤ s.size ∧ o = .string (hexZ s k) ∧ Below w.heap.size w wr) (fun _ i _ => s.size - (intOf i).toNat)
  case atStart => exact ⟨0, rfl, by omega, rfl, Below.refl _ _⟩
  case round =>
    obtain ⟨k, rfl, hk, rfl, hB⟩ := hrel
    by_cases hk1 : k < s.size
    · have hbyte := byte_at hk1
      have hb256 : (nb s).getD k 0 < 256 := getD_lt (nb_lt s) (by decide) k
      have hstep : Hid (hexZ s (k + 1) = hexZ s k ++ hexAll.extract ((nb s).getD k 0 / 16) ((nb s).getD k 0 / 16 + 1) ++ hexAll.extract ((nb s).getD k 0 % 16) ((nb s).getD k 0 % 16 + 1)) := Lib.hid rfl
      have hz := hexZ_size s k
      generalize (nb s).getD k 0 = b at *
      obtain ⟨q, hq, q15⟩ : ∃ q : Nat, b / 16 = q ∧ q ≤ 15 := ⟨_, rfl, by omega⟩
      obtain ⟨r, hr, r15⟩ : ∃ r : Nat, b % 16 = r ∧ r ≤ 15 := ⟨_, rfl, by omega⟩
      rw [hq, hr] at hstep
      have e1 : (b : Int) / 16 = (q : Int) := by omega
      have e2 : (b : Int) % 16 = (r : Int) := by omega
      have e3 : (b : Int).tdiv 16 = (q : Int) := by rw [Int.tdiv_eq_ediv_of_nonneg (by omega)]; exact e1
      have e4 : (b : Int).tmod 16 = (r : Int) := by rw [Int.tmod_eq_emod_of_nonneg (by omega)]; exact e2
      have e5 : IntKind.u8.wrap ((q : Int) + 1) = (q : Int) + 1 := by rw [IntKind.wrap_u8]; omega
      have e6 : IntKind.u8.wrap ((r : Int) + 1) = (r : Int) + 1 := by rw [IntKind.wrap_u8]; omega
      have i1 : (0 : Int) ≤ (k : Int) := by omega
      have i2 : (k : Int) < (s.size : Int) := by omega
      have i3 : (q : Int) + 1 ≤ 16 := by omega
      have i4 : (r : Int) + 1 ≤ 16 := by omega
      have i5 : (0 : Int) ≤ (q : Int) := by omega
      have i6 : (0 : Int) ≤ (r : Int) := by omega
      clear hq hr
      generalize hexZ s k = H at *
      go_wp2_with fail
      go_quiet (fail)
      go_wp2
      go_roundw
      case rel => exact ⟨k + 1, by go_num, by omega, by rw [hstep.out]; rfl, below_drewN hB _⟩
      case measure => simp [intOf]; omega
    · have ek : k = s.size := by omega
      subst ek
      go_wp2
      go_ret
      exact ⟨rfl, hB⟩

set_option maxHeartbeats 1000000 in
theorem left_any (n : Nat) (h1 : 2 ≤ n) (h2 : n ≤ 9223372036854775807) (w : World) :
    Calls Tryd.prog 28 #[.int .i64 n] w fun e w' => e = .returned (.int .i64 (splitZ n : Nat)) ∧ w = w' := by
  have hs := splitZ_spec h1 h2
  have HS : Hid (∃ j, splitZ n = 2 ^ j) := Lib.hid ⟨_, rfl⟩
  generalize hk0 : splitZ n = K at *
  clear hk0
  go_enter Tryd.func28, Tryd.ntmps28
  go_wp2
  go_loop [3] (fun i => ∃ (k : Nat), i = .int .i64 k ∧ 1 ≤ k ∧ k ≤ K ∧ Hid (∃ j, k = 2 ^ j)) (fun i => K - (intOf i).toNat)
  case atStart => exact ⟨1, rfl, by omega, by omega, Lib.hid ⟨0, rfl⟩⟩
  case round =>
    obtain ⟨k, rfl, hk, hkK, hp⟩ := hrel
    by_cases hlt : k < n - k
    · have hd : decide ((k : Int) < (n : Int) - (k : Int)) = true := by simp; omega
      have h2k : 2 * k ≤ K := by
        obtain ⟨j, hj⟩ := hp.out
        obtain ⟨J, hJ⟩ := HS.out
        have hlt2 : k < K := by omega
        have : j < J := by
          rcases Nat.lt_or_ge j J with h | h
          · exact h
          · have := Nat.pow_le_pow_right (n := 2) (by decide) h; omega
        have h3 : 2 ^ (j + 1) ≤ 2 ^ J := Nat.pow_le_pow_right (by decide) this
        rw [Nat.pow_succ] at h3; omega
      have hq : Hid (∃ j, 2 * k = 2 ^ j) := Lib.hid (by obtain ⟨j, hj⟩ := hp.out; exact ⟨j + 1, by rw [Nat.pow_succ, hj]; omega⟩)
      have hlt3 : (k : Int) < (n : Int) - (k : Int) := by omega
      go_wp2
      go_round
      case rel => exact ⟨2 * k, by go_num, by omega, h2k, hq⟩
      case measure => simp [intOf]; omega
    · have hKk : K = k := by
        obtain ⟨j, hj⟩ := hp.out
        obtain ⟨J, hJ⟩ := HS.out
        rcases Nat.lt_or_ge k K with h | h
        · have : j < J := by
            rcases Nat.lt_or_ge j J with h | h
            · exact h
            · have := Nat.pow_le_pow_right (n := 2) (by decide) h; omega
          have h3 : 2 ^ (j + 1) ≤ 2 ^ J := Nat.pow_le_pow_right (by decide) this
          rw [Nat.pow_succ] at h3; omega
        · omega
      have hd : decide ((k : Int) < (n : Int) - (k : Int)) = false := by simp; omega
      have hlt3 : ¬ (k : Int) < (n : Int) - (k : Int) := by omega
      go_wp2
      go_ret
      first | exact ⟨rfl, rfl⟩ | exact ⟨ret_int (by rw [hKk]), rfl⟩
end Go.Proofs.YtfgojhhphknjkaaDoor
