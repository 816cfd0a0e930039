/- TimecodeRoundTrip -/
import Derived.Test.YtfpmmfoinjcclaaDoorTcLaw
namespace Go.Proofs.YtfpmmfoinjcclaaDoor
open Go.RowKit

theorem fmtL_lt {x : Rt} (hx : x ∈ rtL) {n : Nat} (hn : n < x.day) : ∀ a ∈ fmtL x n, a < 256 := by
  obtain ⟨c1, c2, c3, c4⟩ := count_in hx hn
  obtain ⟨-, -, -, -, b5, b6, b7⟩ := rt_bd hx
  have hf : countZ x n % x.base < 100 := by have := Nat.mod_lt (countZ x n) (show 0 < x.base by omega); omega
  have hh : countZ x n / x.base / 3600 < 100 := by
    have : countZ x n / x.base < 86400 := by rw [Nat.div_lt_iff_lt_mul (by omega)]; exact c1
    omega
  have hs : x.sep < 256 := by unfold Rt.sep; split <;> decide
  intro a ha
  unfold fmtL txtL at ha
  simp only [List.mem_append, List.mem_singleton] at ha
  rcases ha with (((((((ha | ha) | ha) | ha) | ha) | ha) | ha))
  · exact two_lt hh a ha
  · omega
  · exact two_lt (by omega) a ha
  · omega
  · exact two_lt (by omega) a ha
  · omega
  · exact two_lt hf a ha
theorem nb_strN {l : List Nat} (h : ∀ a ∈ l, a < 256) : nb (strN l) = l := by
  show List.map UInt8.toNat ((l.map fun x : Nat => (x : Int)).map fun n => UInt8.ofNat n.toNat) = l
  rw [List.map_map, List.map_map]
  conv => rhs; rw [← List.map_id l]
  refine List.map_congr_left fun a ha => ?_
  have := h a ha
  simp
  omega
theorem nb_inj {s t : ByteArray} (h : nb s = nb t) : s = t := by
  unfold nb at h
  have h1 : s.data.toList = t.data.toList := (List.map_inj_right (fun a b hab => UInt8.toNat_inj.1 hab)).1 h
  cases s; cases t
  congr 1
  exact Array.toList_inj.1 h1
theorem strN_size {l : List Nat} (h : ∀ a ∈ l, a < 256) : (strN l).size = l.length := by
  rw [← nb_len, nb_strN h]
theorem parse_of_fmt {x : Rt} (hx : x ∈ rtL) {n : Nat} (hn : n < x.day) : parseO x (strN (fmtL x n)) = some n := by
  unfold parseO
  rw [if_pos (by rw [strN_size (fmtL_lt hx hn)]; exact fmt_len x n), nb_strN (fmtL_lt hx hn)]
  exact parse_fmt hx hn
theorem fmt_of_parse {x : Rt} (hx : x ∈ rtL) {s : ByteArray} {n : Nat} (h : parseO x s = some n) : n < x.day ∧ strN (fmtL x (n % x.day)) = s := by
  unfold parseO at h
  by_cases hs : s.size = 11
  · rw [if_pos hs] at h
    obtain ⟨h1, h2⟩ := fmt_parse hx (by rw [nb_len]; exact hs) h
    refine ⟨h1, ?_⟩
    rw [Nat.mod_eq_of_lt h1]
    apply nb_inj
    rw [nb_strN (fmtL_lt hx h1), h2]
  · rw [if_neg hs] at h; cases h
end Go.Proofs.YtfpmmfoinjcclaaDoor
