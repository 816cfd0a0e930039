/- TimecodeDropped -/
import Derived.Test.YtaffipbflghbiaaDoorTcClose
namespace Go.Proofs.YtaffipbflghbiaaDoor
open Go.RowKit

set_option maxHeartbeats 1000000 in
theorem ltwo_any (n : Nat) (hn : n < 100) (w : World) :
    Calls Tryd.prog 32 #[.int .i64 (n : Int)] w fun e w' => e = .returned (.string (strN (two n))) ∧ Below w.heap.size w w' := by
  obtain ⟨q, hq⟩ : ∃ q : Nat, n / 10 = q := ⟨_, rfl⟩
  obtain ⟨r, hr⟩ : ∃ r : Nat, n % 10 = r := ⟨_, rfl⟩
  have e1 : (n : Int) / 10 = (q : Int) := by omega
  have e2 : (n : Int) % 10 = (r : Int) := by omega
  have e3 : (n : Int).tdiv 10 = (q : Int) := by rw [Int.tdiv_eq_ediv_of_nonneg (by omega)]; exact e1
  have e4 : (n : Int).tmod 10 = (r : Int) := by rw [Int.tmod_eq_emod_of_nonneg (by omega)]; exact e2
  have e5 : (q : Int) % 10 = (q : Int) := by omega
  have e6 : (q : Int).tmod 10 = (q : Int) := by rw [Int.tmod_eq_emod_of_nonneg (by omega)]; exact e5
  have q9 : q ≤ 9 := by omega
  have r9 : r ≤ 9 := by omega
  obtain ⟨X, hX⟩ : ∃ X, 48 + q = X := ⟨_, rfl⟩
  obtain ⟨Y, hY⟩ : ∃ Y, 48 + r = Y := ⟨_, rfl⟩
  have e7 : IntKind.i64.wrap (48 + (q : Int)) = (X : Int) := by rw [w64 (by omega) (by omega)]; omega
  have e8 : IntKind.i64.wrap (48 + (r : Int)) = (Y : Int) := by rw [w64 (by omega) (by omega)]; omega
  have e7' : 48 + (q : Int) = (X : Int) := by omega
  have e8' : 48 + (r : Int) = (Y : Int) := by omega
  have e9 : IntKind.u8.wrap (X : Int) = (X : Int) := by rw [IntKind.wrap_u8]; omega
  have e10 : IntKind.u8.wrap (Y : Int) = (Y : Int) := by rw [IntKind.wrap_u8]; omega
  have htwo : two n = [X, Y] := by unfold two; rw [hq, hr, hX, hY]
  rw [htwo]
  clear hq hr htwo hX hY
  have own0 : (w.alloc (.cells (u8s [X, Y]).toArray 5)).ownsRow w.heap.size 5 1 (.slice (some ⟨w.heap.size, 0, none⟩) 2 2) 2 (u8s [X, Y]) :=
    ⟨rfl, .inr ⟨w.heap.size, 2, _, rfl, Nat.le_refl _, heap_alloc_new _ _, by omega, by unfold maxLen; omega, rfl, rfl⟩⟩
  have hcv : Sem.run Tryd.prog (convert 59 9 (.slice (some ⟨w.heap.size, 0, none⟩) 2 2)) (w.alloc (.cells #[.int .u8 (X : Int), .int .u8 (Y : Int)] 5)) = .ok (.string (strN [X, Y])) (w.alloc (.cells #[.int .u8 (X : Int), .int .u8 (Y : Int)] 5)) := strOf_u8s rfl own0
  obtain ⟨S, hS⟩ : ∃ S, strN [X, Y] = S := ⟨_, rfl⟩
  rw [hS] at hcv
  have HS := Lib.hid hS; clear hS
  go_enter Tryd.func32, Tryd.ntmps32
  go_wp2
  go_ret
  exact ⟨by rw [HS.out]; rfl, (Below.refl _ _).alloc (Nat.le_refl _) _⟩

theorem strN_append (l m : List Nat) : strN (l ++ m) = strN l ++ strN m := by
  apply ByteArray.ext
  apply Array.ext'
  show ((l ++ m).map fun x : Nat => (x : Int)).map (fun n => UInt8.ofNat n.toNat) = _
  rw [ByteArray.data_append, Array.toList_append, List.map_append, List.map_append]
  rfl
theorem txt_cat (p h m s f : Nat) : strN (two h) ++ strN [58] ++ strN (two m) ++ strN [58] ++ strN (two s) ++ strN [p] ++ strN (two f) = strN (txtL p h m s f) := by
  unfold txtL
  simp only [strN_append]
theorem txtL_lt {p h m s f : Nat} (h1 : h < 100) (h2 : m < 100) (h3 : s < 100) (h4 : f < 100) (hp : p < 256) : ∀ a ∈ txtL p h m s f, a < 256 := by
  intro a ha
  unfold txtL at ha
  simp only [List.mem_append, List.mem_singleton] at ha
  rcases ha with (((((((ha | ha) | ha) | ha) | ha) | ha) | ha))
  · exact two_lt h1 a ha
  · omega
  · exact two_lt h2 a ha
  · omega
  · exact two_lt h3 a ha
  · omega
  · exact two_lt h4 a ha
theorem parse_txt_at {x : Rt} (hx : x ∈ rtL) {p h m s f : Nat} (h1 : h < 24) (h2 : m < 60) (h3 : s < 60) (h4 : f < x.base) (hp : p < 256) :
    parseO x (strN (txtL p h m s f)) = if p = x.sep then (if m % 10 ≠ 0 ∧ s = 0 ∧ f < x.drop then none else some (indexZ x (60 * h + m) s f)) else none := by
  have hb := base_le hx
  have hl := txtL_lt (p := p) (h := h) (m := m) (s := s) (f := f) (by omega) (by omega) (by omega) (by omega) hp
  unfold parseO
  rw [if_pos (by rw [strN_size hl]; exact txt_len p h m s f), nb_strN hl]
  by_cases hps : p = x.sep
  · rw [if_pos hps, hps]
    exact parse_txt (by omega) h1 h2 h3 h4
  · rw [if_neg hps]
    unfold parseZ
    rw [if_neg]
    intro hc
    exact hps hc.2.2
end Go.Proofs.YtaffipbflghbiaaDoor
