/- SpanNormalMatchesReference. -/
import Derived.Test.YtjocgipjmcnjfaaSpAlgM
import Derived.Test.YtjocgipjmcnjfaaSpSane
import Derived.Test.YtjocgipjmcnjfaaSpRefS
import Derived.Test.YtjocgipjmcnjfaaSpRefT
namespace Go.Proofs.Ytjocgipjmcnjfaa
open Go.RowKit Go.Shelf

set_option maxRecDepth 100000 in
set_option maxHeartbeats 8000000 in
theorem normal_law (pa : Option Addr) (ca : Nat) (a : List (Int × Int)) (la : a.length ≤ 9223372036854775807) (ka : a.length ≤ ca) (ma : ca ≤ 9223372036854775807) (pb : Option Addr) (cb : Nat) (b : List (Int × Int)) (lb : b.length ≤ 9223372036854775807) (kb : b.length ≤ cb) (mb : cb ≤ 9223372036854775807) (w : World) (Sa : ShAt w w.heap.size pa a) (Ba : Bd a) (Sb : ShAt w w.heap.size pb b) (Bb : Bd b) :
    Calls Try.prog 3 #[.slice pa a.length ca, .slice pb b.length cb] w fun e w' => e = .returned (.bool true) ∧ Below w.heap.size w w' := by
  have Fa := fun W => few_any pa ca a W la ka ma
  have Sa := Sa.take 30
  have Ba := Ba.take 30
  have Na := few_len a
  have Ca : (a.take 30).length ≤ ca := Nat.le_trans (by rw [List.length_take]; omega) ka
  obtain ⟨na, hna⟩ : ∃ n, a.length = n := ⟨_, rfl⟩
  rw [hna] at Fa ⊢
  generalize a.take 30 = La at Fa Sa Ba Na Ca
  clear hna la ka ma
  have Fb := fun W => few_any pb cb b W lb kb mb
  have Sb := Sb.take 30
  have Bb := Bb.take 30
  have Nb := few_len b
  have Cb : (b.take 30).length ≤ cb := Nat.le_trans (by rw [List.length_take]; omega) kb
  obtain ⟨nb, hnb⟩ : ∃ n, b.length = n := ⟨_, rfl⟩
  rw [hnb] at Fb ⊢
  generalize b.take 30 = Lb at Fb Sb Bb Nb Cb
  clear hnb lb kb mb
  obtain ⟨na, ena⟩ : ∃ r, nrmZ La = r := ⟨_, rfl⟩
  have Nna : na.length ≤ 30 := by have h := nrm_len La; rw [ena] at h; omega
  have H1 := op_nrm (a := La) ena (by omega)
  have H2 := fun W p c (h : ShAt W W.heap.size p La) => ena ▸ rnorm_any p c La W h (by omega)
  have H3 := op_eq (a := na) (b := na) (by omega) (by omega) (decide_eq_true rfl)
  have H4 := fun W p c (h : ShAt W W.heap.size p La) => valid_any p c La W h (by omega)
  have H5 := fun W p c (h : ShAt W W.heap.size p La) => rvalid_any p c La W h (by omega)
  generalize ascB La = V1 at H4 H5
  have H6 := fun W p q c d (h : ShAt W W.heap.size p La) (h' : ShAt W W.heap.size q Lb) => same_any p q c d La Lb W h h' (by omega) (by omega)
  have H7 := fun W p q c d (h : ShAt W W.heap.size p La) (h' : ShAt W W.heap.size q Lb) => rsame_any p q c d La Lb W h h' (by omega) (by omega)
  generalize decide (nrmZ La = nrmZ Lb) = V2 at H6 H7
  have H8 := fun W p c (h : ShAt W W.heap.size p La) => total_any p c La W h (by omega) Ba
  have H9 := fun W p c (h : ShAt W W.heap.size p La) => rtotal_any p c La W h (by omega) Ba
  generalize totZ La = V3 at H8 H9
  clear ena
  have bb0 := Below.refl w.heap.size w
  go_enter Try.func3, Try.ntmps3
  go_wp2_with fail
  refine Calls.mono (sane_any _) ?_
  rintro e w1 ⟨rfl, b⟩
  have bb1 := bthen bb0 b
  have Sa := Sa.into b
  have Sb := Sb.into b
  clear b
  go_wp2_with fail
  refine Calls.mono (Fa _) ?_
  rintro e w' ⟨rfl, rfl⟩
  go_wp2_with fail
  refine Calls.mono (Fb _) ?_
  rintro e w' ⟨rfl, rfl⟩
  go_wp2_with fail
  refine Calls.mono (H1 _ pa ca Sa) ?_
  rintro e w2 ⟨v, rfl, o, b⟩
  have bb2 := bthen bb1 b
  have Sa := Sa.into b
  have Sb := Sb.into b
  obtain ⟨p0, c0, rfl, S0, C0⟩ := own_shc o
  clear o b
  go_wp2_with fail
  refine Calls.mono (H2 _ pa ca Sa) ?_
  rintro e w3 ⟨p1, c1, rfl, S1, b⟩
  have bb3 := bthen bb2 b
  have Sa := Sa.into b
  have Sb := Sb.into b
  have S0 := S0.into b
  clear b
  go_wp2_with fail
  refine Calls.mono (H3 _ p0 p1 c0 c1 S0 S1) ?_
  rintro e w4 ⟨rfl, b⟩
  have bb4 := bthen bb3 b
  have Sa := Sa.into b
  have Sb := Sb.into b
  clear b
  go_wp2_with fail
  refine Calls.mono (H4 _ pa ca Sa) ?_
  rintro e w5 ⟨rfl, b⟩
  have bb5 := bthen bb4 b
  have Sa := Sa.into b
  have Sb := Sb.into b
  clear b
  go_wp2_with fail
  refine Calls.mono (H5 _ pa ca Sa) ?_
  rintro e w6 ⟨rfl, b⟩
  have bb6 := bthen bb5 b
  have Sa := Sa.into b
  have Sb := Sb.into b
  clear b
  go_wp2_with fail
  refine Calls.mono (H6 _ pa pb ca cb Sa Sb) ?_
  rintro e w7 ⟨rfl, b⟩
  have bb7 := bthen bb6 b
  have Sa := Sa.into b
  have Sb := Sb.into b
  clear b
  go_wp2_with fail
  refine Calls.mono (H7 _ pa pb ca cb Sa Sb) ?_
  rintro e w8 ⟨rfl, b⟩
  have bb8 := bthen bb7 b
  have Sa := Sa.into b
  have Sb := Sb.into b
  clear b
  go_wp2_with fail
  refine Calls.mono (H8 _ pa ca Sa) ?_
  rintro e w9 ⟨rfl, b⟩
  have bb9 := bthen bb8 b
  have Sa := Sa.into b
  have Sb := Sb.into b
  clear b
  go_wp2_with fail
  refine Calls.mono (H9 _ pa ca Sa) ?_
  rintro e w10 ⟨rfl, b⟩
  have bb10 := bthen bb9 b
  have Sa := Sa.into b
  have Sb := Sb.into b
  clear b
  go_wp2_with fail
  go_ret
  exact ⟨by simp, bb10⟩
end Go.Proofs.Ytjocgipjmcnjfaa
