/- small. -/
import Derived.Test.YtjocgipjmcnjfaaSpLawA
import Derived.Test.YtjocgipjmcnjfaaSpAlgM
namespace Go.Proofs.Ytjocgipjmcnjfaa
open Go.RowKit Go.Shelf

def smZ (s : Int × Int) : Int × Int := (s.1.tmod 40 + min 0 (s.1.tmod 3), s.2.tmod 40)
def smallZ (l : List (Int × Int)) : List (Int × Int) := (l.take 12).map smZ
theorem tmod_in (x : Int) {n : Int} (h : 0 < n) : -n < x.tmod n ∧ x.tmod n < n := by
  have h1 := Int.tmod_lt_of_pos x h
  have h2 := Int.lt_tmod_of_pos x h
  omega
theorem smZ_in (s : Int × Int) : -41 ≤ (smZ s).1 ∧ (smZ s).1 ≤ 39 ∧ -39 ≤ (smZ s).2 ∧ (smZ s).2 ≤ 39 := by
  have h1 := tmod_in s.1 (n := 40) (by decide)
  have h2 := tmod_in s.1 (n := 3) (by decide)
  have h3 := tmod_in s.2 (n := 40) (by decide)
  unfold smZ
  simp only
  omega
def Sm (l : List (Int × Int)) : Prop := ∀ s ∈ l, -41 ≤ s.1 ∧ s.1 ≤ 39 ∧ -39 ≤ s.2 ∧ s.2 ≤ 39
theorem smallZ_sm (l : List (Int × Int)) : Sm (smallZ l) := by
  intro s hs
  obtain ⟨t, -, rfl⟩ := List.mem_map.1 hs
  exact smZ_in t
theorem Sm.bd {l : List (Int × Int)} (h : Sm l) : Bd l := fun s hs => by have := h s hs; omega
theorem Sm.has {l : List (Int × Int)} (h : Sm l) {x : Int} (hx : hasZ l x = true) : -41 ≤ x ∧ x < 39 := by
  obtain ⟨s, hs, h1, h2⟩ := hasZ_iff.1 hx
  have := h s hs; omega
theorem smallZ_len (l : List (Int × Int)) : (smallZ l).length ≤ 12 := by
  unfold smallZ; rw [List.length_map, List.length_take]; omega

set_option maxRecDepth 100000 in
set_option maxHeartbeats 2000000 in
theorem small_any (p : Option Addr) (cap : Nat) (l : List (Int × Int)) (w : World) (hS : ShAt w w.heap.size p l) (hlen : l.length ≤ 9223372036854775807) (hbd : Bd l) :
    Calls Try.prog 34 #[.slice p l.length cap] w (Own w (smallZ l)) := by
  obtain ⟨i0, hi0, hz0, hz1, hz2⟩ := info_parts infoS
  obtain ⟨m, hm⟩ : ∃ m, l.length = m := ⟨_, rfl⟩
  have HM := Lib.hid hm
  rw [hm] at hlen ⊢
  have HB := Lib.hid hbd
  clear hm hbd
  obtain ⟨N, hN⟩ : ∃ N, w.heap.size = N := ⟨_, rfl⟩
  rw [hN] at hS
  go_enter Try.func34, Try.ntmps34
  go_wp2_with fail
  go_loopw [3, 4] (fun s3 s4 wr => ∃ (k : Nat) (v : Value), v = s3 ∧ s4 = .int .i64 k ∧ k ≤ m ∧ k ≤ 12 ∧ wr.ownsRow N 30 2 v ((l.take k).map smZ).length (spv ((l.take k).map smZ)) ∧ Below N w wr) (fun _ s4 _ => m - (intOf s4).toNat)
  case atStart => exact ⟨0, _, rfl, rfl, Nat.zero_le _, Nat.zero_le _, World.ownsRow_nil _ _ _ _, Below.refl _ _⟩
  case round =>
    obtain ⟨k, v, hv, rfl, hk, hk12, own, hb⟩ := hrel
    subst hv
    have hmm := HM.out
    have hsz : N ≤ wr.heap.size := by have := hb.size; omega
    by_cases hlt : k < m
    · by_cases hlt12 : k < 12
      · obtain ⟨b, o, rfl, hbl, q0, q1⟩ := (hS.below hb) k (by omega)
        have hst : (l.take (k + 1)).map smZ = (l.take k).map smZ ++ [smZ (l.getD k (0, 0))] := by rw [List.take_succ_eq_append_getElem (by omega), getD_at (by omega), List.map_append]; rfl
        obtain ⟨X, hX⟩ : ∃ X, l.getD k (0, 0) = X := ⟨_, rfl⟩
        have hbx := HB.out.getD (i := k) (by omega)
        rw [hX] at q0 q1 hst hbx
        obtain ⟨x, y⟩ := X
        dsimp only at q0 q1 hbx
        have hL : ((l.take k).map smZ).length ≤ 12 := by rw [List.length_map, List.length_take]; omega
        generalize (l.take k).map smZ = L at own hL hst
        obtain ⟨r1, hr1⟩ : ∃ r, x.tmod 40 = r := ⟨_, rfl⟩
        obtain ⟨r2, hr2⟩ : ∃ r, x.tmod 3 = r := ⟨_, rfl⟩
        obtain ⟨r3, hr3⟩ : ∃ r, y.tmod 40 = r := ⟨_, rfl⟩
        have j1 := tmod_in x (n := 40) (by decide)
        have j2 := tmod_in x (n := 3) (by decide)
        have j3 := tmod_in y (n := 40) (by decide)
        rw [hr1] at j1
        rw [hr2] at j2
        rw [hr3] at j3
        have hsm : smZ (x, y) = (r1 + min 0 r2, r3) := by unfold smZ; simp only; rw [hr1, hr2, hr3]
        rw [hsm] at hst
        have HST := Lib.hid hst
        have w1 : IntKind.i64.wrap r1 = r1 := w64 (by omega) (by omega)
        have w2 : IntKind.i64.wrap r2 = r2 := w64 (by omega) (by omega)
        have w3 : IntKind.i64.wrap r3 = r3 := w64 (by omega) (by omega)
        have w4 : IntKind.i64.wrap (r1 + min 0 r2) = r1 + min 0 r2 := w64 (by omega) (by omega)
        have hidx : (k : Int) * 2 = ((k * 2 : Nat) : Int) := by omega
        have hkm : (k : Int) < (m : Int) := by omega
        have i0' : (0 : Int) ≤ (k : Int) := by omega
        have hbd : Below N wr wr.drew := (Below.refl _ _).drew
        have hst0 : wr.drew.cell? ⟨b, o + k * 2, none⟩ = some (iv x) ∧ wr.drew.cell? ⟨b, o + k * 2 + 1, none⟩ = some (iv y) ∧ Below N wr wr.drew := ⟨q0, q1, hbd⟩
        have HS := Lib.hid hS
        clear hX hst q0 q1 hmm hsm hbx hS j1 j2 j3
        go_wp2_with fail
        go_region_held3 (fun w' => w'.cell? ⟨b, o + k * 2, none⟩ = some (iv x) ∧ w'.cell? ⟨b, o + k * 2 + 1, none⟩ = some (iv y) ∧ Below N wr w') (first | assumption | exact hst0 | exact held2Alloc (a := ⟨b, o + k * 2, none⟩) (c := ⟨b, o + k * 2 + 1, none⟩) hbl hbl (by assumption) hsz _ | exact held2Append (a := ⟨b, o + k * 2, none⟩) (c := ⟨b, o + k * 2 + 1, none⟩) hbl hbl (held2Alloc (a := ⟨b, o + k * 2, none⟩) (c := ⟨b, o + k * 2 + 1, none⟩) hbl hbl hst0 hsz _) hsz hgrow9 (own.drew.alloc _) | fail)
          (first | (refine step_append_lies _ (by rfl) _ _ 22 (by rfl) N 30 i0 (.agg #[.int .i64 0, .int .i64 0]) 2 16 Try.underlying22 hi0 hz0 hz1 hz2 rfl (by omega) _ L.length (spv L) (by rfl) (own.drew.alloc _) ⟨wr.heap.size, 0, none⟩ 1 1 [iv (r1 + min 0 r2), iv r3] (by rfl) (by rfl) (cells_new _ _ _) (by simp [Value.oneCell']) (by omega) (by unfold maxLen; omega) (by omega) (by simp; omega) (wr.heap.size + 1) (by simp) ?_; intro gg cap9 w9 hown9 hgrow9 hat9 hlt9) | fail)
        all_goals
          rename_i hHeld
          have hb9 := hb.trans hHeld.2.2
          have HO9 := Lib.hid hown9
          clear hown9 hHeld hst0 hat9 hgrow9
          go_wp2_with fail
          refine ⟨⟨k + 1, _, rfl, by go_num, by omega, by omega, ?_, hb9⟩, by simp [intOf] <;> omega⟩
          rw [HST.out, List.length_append, spv_append]
          exact HO9.out
      · have hfin : (l.take k).map smZ = smallZ l := by unfold smallZ; rw [show k = 12 by omega]
        rw [hfin] at own
        have HO := Lib.hid own
        have d12 : decide ((k : Int) < 12) = false := by simp; omega
        have d12' : decide (k < 12) = false := by simp; omega
        clear own hfin hS hmm
        go_wp2_with fail
        go_ret
        exact ⟨_, rfl, by rw [hN]; exact HO.out, by rw [hN]; exact hb⟩
    · have hfin : (l.take k).map smZ = smallZ l := by unfold smallZ; rw [List.take_of_length_le (by omega), List.take_of_length_le (by omega)]
      rw [hfin] at own
      have HO := Lib.hid own
      clear own hfin hS hmm
      go_wp2_with fail
      go_ret
      exact ⟨_, rfl, by rw [hN]; exact HO.out, by rw [hN]; exact hb⟩
end Go.Proofs.Ytjocgipjmcnjfaa
