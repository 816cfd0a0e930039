/- few. -/
import Derived.Test.YtfgojhhphknjkaaDoorDigSane
namespace Go.Proofs.YtfgojhhphknjkaaDoor
open Go.RowKit

def cut60 (s : ByteArray) : ByteArray := s.extract 0 (min (s.size : Int) 60).toNat
theorem cut60_size (s : ByteArray) : (cut60 s).size ≤ 60 := by unfold cut60; rw [ByteArray.size_extract]; omega
def fewZ (ss : List ByteArray) (n : Nat) : List ByteArray := (ss.take n).map cut60
theorem fewZ_len (ss : List ByteArray) (n : Nat) : (fewZ ss n).length = min n ss.length := by simp [fewZ]
theorem fewZ_size (ss : List ByteArray) (n : Nat) : ∀ s ∈ fewZ ss n, s.size ≤ 60 := by
  intro s hs
  simp only [fewZ, List.mem_map] at hs
  obtain ⟨x, _, rfl⟩ := hs
  exact cut60_size x
theorem fewZ_small (ss : List ByteArray) (n : Nat) : Small (fewZ ss n) := fun s hs => by have := fewZ_size ss n s hs; omega

theorem heldAlloc {w w8 : World} {a : Addr} {v : Value} (ha : a.block < w.heap.size) (h : w8.cell? a = some v ∧ Below w.heap.size w w8) (o : Obj) : (w8.alloc o).cell? a = some v ∧ Below w.heap.size w (w8.alloc o) :=
  ⟨(((Below.refl w8.heap.size w8).alloc (Nat.le_refl _) o).cell (p := a) (by have := h.2.size; omega)).trans h.1, h.2.alloc h.2.size o⟩
theorem heldAppend {w w8 w9 : World} {a : Addr} {u : Value} (ha : a.block < w.heap.size) (h : w8.cell? a = some u ∧ Below w.heap.size w w8) {e : TypeId} {size : Nat} {v : Value} {n : Nat} {xs : List Value} (hg : w8.grownBy w9 v.ownBlock) (own : w8.ownsRow w.heap.size e size v n xs) : w9.cell? a = some u ∧ Below w.heap.size w w9 := by
  have hb : Below w.heap.size w8 w9 := (Below.refl _ _).grown hg h.2.size (own_le own)
  exact ⟨(hb.cell (p := a) ha).trans h.1, h.2.trans hb⟩

set_option maxRecDepth 100000 in
set_option maxHeartbeats 2000000 in
theorem few_any (ss : List ByteArray) (n : Nat) (hn : n ≤ 900) (p : Option Addr) (cap : Nat) (w : World) (hl : ss.length ≤ 9223372036854775807) (hp : StrsAt w p ss) (hs : ∀ s ∈ ss, s.size ≤ 9223372036854775807) :
    Calls Tryd.prog 11 #[.slice p ss.length cap, .int .i64 n] w fun e w' => ∃ v, e = .returned v ∧ w'.ownsRow w.heap.size 9 1 v (fewZ ss n).length (strv (fewZ ss n)) ∧ Below w.heap.size w w' := by
  obtain ⟨i0, hi0, hz0, hz1, hz2⟩ := info_parts infoStr
  have HP := Lib.hid hp
  have HS := Lib.hid hs
  clear hp hs
  have hstep : Hid (∀ k (h : k < ss.length), k < n → fewZ ss (k + 1) = fewZ ss k ++ [cut60 ss[k]]) := Lib.hid (fun k h _ => by
    unfold fewZ; rw [List.take_succ_eq_append_getElem h, List.map_append]; rfl)
  go_enter Tryd.func11, Tryd.ntmps11
  go_wp2
  go_loopw [5, 6] (fun v i wr => ∃ k : Nat, i = .int .i64 k ∧ k ≤ ss.length ∧ k ≤ n ∧ wr.ownsRow w.heap.size 9 1 v (fewZ ss k).length (strv (fewZ ss k)) ∧ Below w.heap.size w wr) (fun _ i _ => ss.length - (intOf i).toNat)
  case atStart => exact ⟨0, rfl, by omega, by omega, World.ownsRow_nil _ _ _ _, Below.refl _ _⟩
  case round =>
    obtain ⟨k, rfl, hk, hkn, own, hB⟩ := hrel
    by_cases hk1 : k < ss.length ∧ k < n
    · obtain ⟨hk1, hk2⟩ := hk1
      obtain ⟨b, off, rfl, hc0⟩ := HP.out k hk1
      have hlt := cell_lt' hc0
      have hc := (hB.cell (p := ⟨b, off + k, none⟩) hlt).trans hc0
      have hz := HS.out _ (List.getElem_mem hk1)
      have hst := Lib.hid (hstep.out k hk1 hk2)
      have hXl : (fewZ ss k).length ≤ 900 := by rw [fewZ_len]; omega
      have hcut : Hid (cut60 ss[k] = ss[k].extract 0 (min (ss[k].size : Int) 60).toNat) := Lib.hid rfl
      generalize ss[k] = s at *
      generalize fewZ ss k = X at *
      have d1 : decide ((k : Int) < (ss.length : Int)) = true := by simp; omega
      have d2 : decide ((k : Int) < (n : Int)) = true := by simp; omega
      have i1 : (0 : Int) ≤ (k : Int) := by omega
      have i2 : (k : Int) < (ss.length : Int) := by omega
      have i3 : (0 : Int) ≤ min (s.size : Int) 60 := by omega
      have i4 : min (s.size : Int) 60 ≤ (s.size : Int) := by omega
      have hbd := hB.drew
      clear hc0
      go_wp2_with fail
      go_region_held3 (fun w' => w'.cell? ⟨b, off + k, none⟩ = some (.string s) ∧ Below w.heap.size w w') (first | assumption | exact ⟨hc, hbd⟩ | exact heldAlloc (a := ⟨b, off + k, none⟩) hlt (by assumption) _ | exact heldAppend (a := ⟨b, off + k, none⟩) hlt (by assumption) hgrow9 (own.alloc _) | fail)
        (first | (refine step_append_lies _ (by rfl) _ _ 22 (by rfl) w.heap.size 9 i0 (.string ⟨#[]⟩) 1 16 Tryd.underlying22 hi0 hz0 hz1 hz2 rfl (by omega) _ X.length (strv X) (by rfl) (own.alloc _) ⟨wr.heap.size, 0, none⟩ 1 1 [.string (s.extract 0 (min (s.size : Int) 60).toNat)] (by rfl) (by rfl) (Arr.news4 _ _ _) (by simp [Value.oneCell']) (by omega) (by unfold maxLen; omega) (by omega) (by have := hB.size; simp; omega) (wr.heap.size + 1) (by simp) ?_; intro gg cap9 w9 hown9 hgrow9 hat9 hlt9) | fail)
      have hbz := (show w9.cell? ⟨b, off + k, none⟩ = some (.string s) ∧ Below w.heap.size w w9 by assumption).2
      go_wp2
      go_roundw
      case rel =>
        refine ⟨k + 1, by go_num, by omega, by omega, ?_, hbz⟩
        rw [hst.out, hcut.out, List.length_append]
        simpa [strv] using hown9
      case measure => simp [intOf]; omega
    · have hd : (decide ((k : Int) < (ss.length : Int)) = true ∧ decide ((k : Int) < (n : Int)) = false) ∨ decide ((k : Int) < (ss.length : Int)) = false := by simp; omega
      have hfin : fewZ ss k = fewZ ss n := by
        unfold fewZ
        rcases Nat.lt_or_ge k ss.length with h | h
        · rw [show k = n by omega]
        · rw [List.take_of_length_le (by omega), List.take_of_length_le (by omega)]
      rw [hfin] at own
      rcases hd with ⟨d1, d2⟩ | d1
      · go_wp2
        all_goals (go_ret; exact ⟨_, rfl, own, hB⟩)
      · go_wp2
        all_goals (go_ret; exact ⟨_, rfl, own, hB⟩)
end Go.Proofs.YtfgojhhphknjkaaDoor
