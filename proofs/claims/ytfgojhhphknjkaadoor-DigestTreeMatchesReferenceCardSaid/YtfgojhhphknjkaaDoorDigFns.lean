/- Sum, Leaf, Node, Chain; split. -/
import Derived.Test.YtfgojhhphknjkaaDoorDigSum
namespace Go.Proofs.YtfgojhhphknjkaaDoor
open Go.RowKit

def sumZ (s : ByteArray) : ByteArray := shaS (nb s)
def leafZ (s : ByteArray) : ByteArray := shaS (0 :: nb s)
def nodeZ (a b : ByteArray) : ByteArray := shaS (1 :: (nb a ++ nb b))
def chainZ (a b : ByteArray) : ByteArray := shaS (2 :: (nb a ++ nb b))

/-- What the functions need of memory: the table of keys. -/
def Keyed (w : World) : Prop := KeysAt w ∧ 0 < w.heap.size
theorem Keyed.below {w w' : World} (h : Keyed w) (hb : Below w.heap.size w w') : Keyed w' :=
  ⟨fun i hi => (hb.cell (p := ⟨0, i, none⟩) h.2).trans (h.1 i hi), Nat.lt_of_lt_of_le h.2 hb.size⟩

theorem bthen {a b c : World} (h : Below a.heap.size a b) (k : Below b.heap.size b c) : Below a.heap.size a c := h.trans (k.mono h.size)

/-- sum over a slice that was just built. -/
theorem sum_built (ss : List ByteArray) (n : Nat) (hn : ss.length = n) (w : World) (h1 : 1 ≤ ss.length) (h2 : ss.length ≤ 900) (hsz : (joinN ss).length ≤ 1152921504606846975) (hK : Keyed w) (cs : Array Value) (hcs : cs = (strv ss).toArray) :
    Calls Tryd.prog 43 #[.slice (some ⟨w.heap.size, 0, none⟩) n n] (w.alloc (.cells cs 9)) fun e w' => e = .returned (.string (shaS (joinN ss))) ∧ Below w.heap.size w w' := by
  subst hn hcs
  have hK' := hK.below ((Below.refl _ w).alloc (Nat.le_refl _) (.cells (strv ss).toArray 9))
  have hp : StrsAt (w.alloc (.cells (strv ss).toArray 9)) (some ⟨w.heap.size, 0, none⟩) ss := fun i hi =>
    ⟨w.heap.size, 0, rfl, by rw [Nat.zero_add]; exact (Arr.new w 9 (strv ss)).cell (by simp [strv, List.getElem?_eq_getElem hi])⟩
  refine (sum_any ss _ ss.length _ hp h1 h2 hsz hK'.1 hK'.2).mono ?_
  rintro e w' ⟨rfl, hb⟩
  exact ⟨rfl, ((Below.refl _ w).alloc (Nat.le_refl _) _).trans (hb.mono (by simp))⟩

theorem nb0 : nb ⟨#[0]⟩ = [0] := rfl
theorem nb1 : nb ⟨#[1]⟩ = [1] := rfl
theorem nb2 : nb ⟨#[2]⟩ = [2] := rfl

set_option maxHeartbeats 400000 in
theorem Sum_any (s : ByteArray) (w : World) (hs : s.size ≤ 140737488351232) (hK : Keyed w) : Calls Tryd.prog 25 #[.string s] w fun e w' => e = .returned (.string (sumZ s)) ∧ Below w.heap.size w w' := by
  have hc := sum_built [s] 1 rfl w (by simp) (by simp) (by simp [joinN, nb_len]; omega) hK #[.string s] rfl
  rw [show joinN [s] = nb s by simp [joinN]] at hc
  go_enter Tryd.func25, Tryd.ntmps25
  go_wp2_with (go_at_call 43; refine hc.mono ?_; rintro e w' ⟨rfl, hb⟩)
  go_ret
  exact ⟨rfl, hb⟩

set_option maxHeartbeats 400000 in
theorem leaf_any (s : ByteArray) (w : World) (hs : s.size ≤ 140737488351232) (hK : Keyed w) : Calls Tryd.prog 27 #[.string s] w fun e w' => e = .returned (.string (leafZ s)) ∧ Below w.heap.size w w' := by
  have hc := sum_built [⟨#[0]⟩, s] 2 rfl w (by simp) (by simp) (by simp [joinN, nb_len, nb0]; omega) hK #[.string ⟨#[0]⟩, .string s] rfl
  rw [show joinN [⟨#[0]⟩, s] = 0 :: nb s by simp [joinN, nb0]] at hc
  go_enter Tryd.func27, Tryd.ntmps27
  go_wp2_with (go_at_call 43; refine hc.mono ?_; rintro e w' ⟨rfl, hb⟩)
  go_ret
  exact ⟨rfl, hb⟩

set_option maxHeartbeats 400000 in
theorem node_any (a b : ByteArray) (w : World) (ha : a.size ≤ 140737488351232) (hb' : b.size ≤ 140737488351232) (hK : Keyed w) : Calls Tryd.prog 29 #[.string a, .string b] w fun e w' => e = .returned (.string (nodeZ a b)) ∧ Below w.heap.size w w' := by
  have hc := sum_built [⟨#[1]⟩, a, b] 3 rfl w (by simp) (by simp) (by simp [joinN, nb_len, nb1]; omega) hK #[.string ⟨#[1]⟩, .string a, .string b] rfl
  rw [show joinN [⟨#[1]⟩, a, b] = 1 :: (nb a ++ nb b) by simp [joinN, nb1]] at hc
  go_enter Tryd.func29, Tryd.ntmps29
  go_wp2_with (go_at_call 43; refine hc.mono ?_; rintro e w' ⟨rfl, hb⟩)
  go_ret
  exact ⟨rfl, hb⟩

set_option maxHeartbeats 400000 in
theorem chain_any (a b : ByteArray) (w : World) (ha : a.size ≤ 140737488351232) (hb' : b.size ≤ 140737488351232) (hK : Keyed w) : Calls Tryd.prog 42 #[.string a, .string b] w fun e w' => e = .returned (.string (chainZ a b)) ∧ Below w.heap.size w w' := by
  have hc := sum_built [⟨#[2]⟩, a, b] 3 rfl w (by simp) (by simp) (by simp [joinN, nb_len, nb2]; omega) hK #[.string ⟨#[2]⟩, .string a, .string b] rfl
  rw [show joinN [⟨#[2]⟩, a, b] = 2 :: (nb a ++ nb b) by simp [joinN, nb2]] at hc
  go_enter Tryd.func42, Tryd.ntmps42
  go_wp2_with (go_at_call 43; refine hc.mono ?_; rintro e w' ⟨rfl, hb⟩)
  go_ret
  exact ⟨rfl, hb⟩

end Go.Proofs.YtfgojhhphknjkaaDoor
