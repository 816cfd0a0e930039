/- Proof, Extension, Verify, VerifyExtension. -/
import Derived.Test.YtfgojhhphknjkaaDoorDigPart
import Derived.Deep.QuietTactic
import Derived.BigQuiet
namespace Go.Proofs.YtfgojhhphknjkaaDoor
open Go.RowKit

set_option maxHeartbeats 1000000 in
theorem proof_in (ss : List ByteArray) (i : Nat) (p : Option Addr) (cap : Nat) (w : World) (hi : i < ss.length) (h1000 : ss.length ≤ 1000) (hcap : ss.length ≤ cap) (hcap2 : cap ≤ 9223372036854775807) (hp : StrsAt w p ss) (hs : Small ss) (hK : Keyed w) :
    Calls Tryd.prog 12 #[.slice p ss.length cap, .int .i64 i] w fun e w' => ∃ v, e = .returned (.tuple #[v, .int .i64 0]) ∧ w'.ownsRow w.heap.size 9 1 v (pathZ ss i).length (strv (pathZ ss i)) ∧ Below w.heap.size w w' := by
  have hc := path_any ss.length ss i p cap w (Nat.le_refl _) (by omega) hi h1000 hcap hcap2 hp hs hK
  generalize pathZ ss i = X at *
  have d1 : decide ((i : Int) < 0) = false := by simp
  have d2 : decide ((ss.length : Int) ≤ (i : Int)) = false := by simp; omega
  go_enter Tryd.func12, Tryd.ntmps12
  go_wp2_with (go_at_call 31; refine hc.mono ?_; rintro e w7 ⟨v7, rfl, own7, b7⟩)
  go_ret2
  exact ⟨_, rfl, own7, b7⟩

set_option maxHeartbeats 1000000 in
theorem proof_out (n : Nat) (i : Int) (p : Option Addr) (cap : Nat) (w : World) (hi : i < 0 ∨ (n : Int) ≤ i) (h1 : -9223372036854775808 ≤ i) (h2 : i ≤ 9223372036854775807) (hn : n ≤ 9223372036854775807) :
    Calls Tryd.prog 12 #[.slice p n cap, .int .i64 i] w fun e w' => e = .returned (.tuple #[.slice none 0 0, .int .i64 2]) ∧ w = w' := by
  by_cases h : i < 0
  · have d1 : decide (i < 0) = true := by simp; omega
    go_enter Tryd.func12, Tryd.ntmps12
    go_wp2
    go_ret2
    exact ⟨rfl, rfl⟩
  · have d1 : decide (i < 0) = false := by simp; omega
    have d2 : decide ((n : Int) ≤ i) = true := by simp; omega
    go_enter Tryd.func12, Tryd.ntmps12
    go_wp2
    go_ret2
    exact ⟨rfl, rfl⟩

set_option maxHeartbeats 1000000 in
theorem ext_in (ss : List ByteArray) (m : Nat) (p : Option Addr) (cap : Nat) (w : World) (h1 : 1 ≤ m) (hi : m ≤ ss.length) (h900 : ss.length ≤ 900) (hcap : ss.length ≤ cap) (hcap2 : cap ≤ 9223372036854775807) (hp : StrsAt w p ss) (hs : Small ss) (hK : Keyed w) :
    Calls Tryd.prog 14 #[.slice p ss.length cap, .int .i64 m] w fun e w' => ∃ v, e = .returned (.tuple #[v, .int .i64 0]) ∧ w'.ownsRow w.heap.size 9 1 v (partZ ss m true).length (strv (partZ ss m true)) ∧ Below w.heap.size w w' := by
  have hc := part_any ss.length ss m true p cap w (Nat.le_refl _) h1 hi h900 hcap hcap2 hp hs hK
  generalize partZ ss m true = X at *
  have d1 : decide ((m : Int) < 0) = false := by simp
  have d2 : decide ((ss.length : Int) < (m : Int)) = false := by simp; omega
  have d3 : ((m : Int) == 0) = false := by simp; omega
  have d4 : m ≠ 0 := by omega
  go_enter Tryd.func14, Tryd.ntmps14
  go_wp2_with (go_at_call 33; refine hc.mono ?_; rintro e w7 ⟨v7, rfl, own7, b7⟩)
  go_ret2
  exact ⟨_, rfl, own7, b7⟩

set_option maxHeartbeats 1000000 in
theorem ext_zero (n : Nat) (p : Option Addr) (cap : Nat) (w : World) (hn : n ≤ 9223372036854775807) :
    Calls Tryd.prog 14 #[.slice p n cap, .int .i64 0] w fun e w' => e = .returned (.tuple #[.slice none 0 0, .int .i64 0]) ∧ w = w' := by
  have d2 : decide ((n : Int) < 0) = false := by simp
  go_enter Tryd.func14, Tryd.ntmps14
  go_wp2
  go_ret2
  exact ⟨rfl, rfl⟩

set_option maxHeartbeats 1000000 in
theorem ext_out (n : Nat) (m : Int) (p : Option Addr) (cap : Nat) (w : World) (hi : m < 0 ∨ (n : Int) < m) (h1 : -9223372036854775808 ≤ m) (h2 : m ≤ 9223372036854775807) (hn : n ≤ 9223372036854775807) :
    Calls Tryd.prog 14 #[.slice p n cap, .int .i64 m] w fun e w' => e = .returned (.tuple #[.slice none 0 0, .int .i64 2]) ∧ w = w' := by
  by_cases h : m < 0
  · have d1 : decide (m < 0) = true := by simp; omega
    go_enter Tryd.func14, Tryd.ntmps14
    go_wp2
    go_ret2
    exact ⟨rfl, rfl⟩
  · have d1 : decide (m < 0) = false := by simp; omega
    have d2 : decide ((n : Int) < m) = true := by simp; omega
    go_enter Tryd.func14, Tryd.ntmps14
    go_wp2
    go_ret2
    exact ⟨rfl, rfl⟩

set_option maxHeartbeats 1000000 in
theorem parted_nil (p : Option Addr) (cap : Nat) (w : World) :
    Calls Tryd.prog 47 #[.slice p 0 cap] w fun e w' => e = .returned (.tuple #[.slice none 0 0, .string ⟨#[]⟩, .bool false]) ∧ w = w' := by
  go_enter Tryd.func47, Tryd.ntmps47
  go_wp2
  go_ret3
  exact ⟨rfl, rfl⟩

set_option maxRecDepth 100000 in
set_option maxHeartbeats 1000000 in
theorem parted_some (ini : List ByteArray) (x : ByteArray) (n : Nat) (hn : n = ini.length + 1) (p : Option Addr) (cap : Nat) (w : World) (hl : ini.length ≤ 1000) (hcap : ini.length + 1 ≤ cap) (hcap2 : cap ≤ 9223372036854775807) (hp : StrsAt w p (ini ++ [x])) :
    Calls Tryd.prog 47 #[.slice p n cap] w fun e w' => e = .returned (.tuple #[.slice p ini.length cap, .string x, .bool true]) ∧ ∃ m, w' = w.drewN m := by
  obtain ⟨b, off, rfl, hc⟩ := hp ini.length (by simp)
  simp only [List.getElem_concat_length] at hc
  generalize ini.length = k at *
  subst hn
  have e1 : (((k + 1 : Nat) : Int)) - 1 = (k : Int) := by omega
  have e2 : IntKind.i64.wrap (k : Int) = (k : Int) := by rw [IntKind.wrap_i64]; omega
  have d1 : (((k + 1 : Nat) : Int) == 0) = false := by simp; omega
  have d1' : ((k : Int) + 1 == 0) = false := by simp; omega
  have d2 : ¬ ((k : Int) + 1 = 0) := by omega
  have i1 : (0 : Int) ≤ (k : Int) := by omega
  have i2 : (k : Int) < ((k + 1 : Nat) : Int) := by omega
  have i3 : (k : Int) ≤ (cap : Int) := by omega
  have i4 : (k : Int) < (k : Int) + 1 := by omega
  go_enter Tryd.func47, Tryd.ntmps47
  go_wp2_with fail
  go_quiet (fail)
  go_wp2
  go_ret3
  exact ⟨rfl, _, rfl⟩

def allDig (ss : List ByteArray) : Bool := ss.all fun s => s.size == 32

set_option maxHeartbeats 1000000 in
theorem areDigests_any (ss : List ByteArray) (p : Option Addr) (cap : Nat) (w : World) (hl : ss.length ≤ 9223372036854775806) (hp : StrsAt w p ss) (hs : Small ss) :
    Calls Tryd.prog 39 #[.slice p ss.length cap] w fun e w' => e = .returned (.bool (allDig ss)) ∧ w = w' := by
  have HP := Lib.hid hp
  have HS := Lib.hid hs
  clear hp hs
  go_enter Tryd.func39, Tryd.ntmps39
  go_wp2
  go_loop [7] (fun i => ∃ k : Nat, i = .int .i64 k ∧ k ≤ ss.length ∧ Hid (allDig (ss.take k) = true)) (fun i => ss.length - (intOf i).toNat)
  case atStart => exact ⟨0, rfl, by omega, Lib.hid rfl⟩
  case round =>
    obtain ⟨k, rfl, hk, hall⟩ := hrel
    by_cases hk1 : k < ss.length
    · obtain ⟨b, off, rfl, hc⟩ := HP.out k hk1
      have hz := HS.out.get hk1
      have hstep : Hid (allDig (ss.take (k + 1)) = (allDig (ss.take k) && (ss[k].size == 32))) := Lib.hid (by
        rw [List.take_succ_eq_append_getElem hk1, allDig, List.all_append]; simp [allDig])
      have hbad : Hid (ss[k].size ≠ 32 → allDig ss = false) := Lib.hid (fun h => by
        simp only [allDig, List.all_eq_false]; exact ⟨ss[k], List.getElem_mem hk1, by simpa using h⟩)
      generalize ss[k] = s at *
      by_cases h32 : s.size = 32
      · have d1 : ((s.size : Int) == 32) = true := by simp; omega
        have d2 : ((s.size : Int) != 32) = false := by simp; omega
        have d3 : (s.size : Int) = 32 := by omega
        go_wp2
        go_round
        case rel => exact ⟨k + 1, by go_num, by omega, Lib.hid (by rw [hstep.out, hall.out, h32]; rfl)⟩
        case measure => simp [intOf]; omega
      · have d1 : ((s.size : Int) == 32) = false := by simp; omega
        have d2 : ((s.size : Int) != 32) = true := by simp; omega
        have d3 : ¬ (s.size : Int) = 32 := by omega
        go_wp2
        go_ret
        exact ⟨by rw [hbad.out h32]; rfl, rfl⟩
    · have ek : k = ss.length := by omega
      have ha : allDig ss = true := by have := hall.out; rwa [ek, List.take_length] at this
      go_wp2
      go_ret
      first | exact ⟨rfl, rfl⟩ | exact ⟨by rw [ha]; rfl, rfl⟩
end Go.Proofs.YtfgojhhphknjkaaDoor
