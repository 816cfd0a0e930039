/- SpanSetsMatchReference. -/
import Derived.Test.YtjocgipjmcnjfaaSpAlgM
import Derived.Test.YtjocgipjmcnjfaaSpSane
import Derived.Test.YtjocgipjmcnjfaaSpRefS
import Derived.Test.YtjocgipjmcnjfaaSpRefT
namespace Go.Proofs.Ytjocgipjmcnjfaa
open Go.RowKit Go.Shelf

set_option maxRecDepth 100000 in
set_option maxHeartbeats 8000000 in
theorem sets_law (pa : Option Addr) (ca : Nat) (a : List (Int × Int)) (la : a.length ≤ 9223372036854775807) (ka : a.length ≤ ca) (ma : ca ≤ 9223372036854775807) (pb : Option Addr) (cb : Nat) (b : List (Int × Int)) (lb : b.length ≤ 9223372036854775807) (kb : b.length ≤ cb) (mb : cb ≤ 9223372036854775807) (w : World) (Sa : ShAt w w.heap.size pa a) (Ba : Bd a) (Sb : ShAt w w.heap.size pb b) (Bb : Bd b) :
    Calls Try.prog 4 #[.slice pa a.length ca, .slice pb b.length cb] w fun e w' => e = .returned (.bool true) ∧ Below w.heap.size w w' := by
  have Fa := fun W => few_any pa ca a W la ka ma
  have Sa := Sa.take 30
  have Ba := Ba.take 30
  have Na := few_len a
  have Ca : (a.take 30).length ≤ ca := Nat.le_trans (by rw [List.length_take]; omega) ka
  obtain ⟨na, hna⟩ : ∃ n, a.length = n := ⟨_, rfl⟩
  rw [hna] at Fa ⊢
  generalize a.take 30 = La at Fa Sa Ba Na Ca
  clear hna la ka ma
  have Fb := fun W => few_any pb cb b W lb kb mb
  have Sb := Sb.take 30
  have Bb := Bb.take 30
  have Nb := few_len b
  have Cb : (b.take 30).length ≤ cb := Nat.le_trans (by rw [List.length_take]; omega) kb
  obtain ⟨nb, hnb⟩ : ∃ n, b.length = n := ⟨_, rfl⟩
  rw [hnb] at Fb ⊢
  generalize b.take 30 = Lb at Fb Sb Bb Nb Cb
  clear hnb lb kb mb
  obtain ⟨ru, eu⟩ : ∃ r, uniZ La Lb = r := ⟨_, rfl⟩
  have Nu : ru.length ≤ 120 := by have h := uni_len Ba Bb; rw [eu] at h; omega
  have Hu := op_uni (a := La) (b := Lb) eu (by omega) (by omega) Ba Bb
  have Ru := fun W p q c d (h : ShAt W W.heap.size p La) (h' : ShAt W W.heap.size q Lb) => eu ▸ runion_any p q c d La Lb W h h' (by omega) (by omega)
  have Eu := op_eq (a := ru) (b := ru) (by omega) (by omega) (decide_eq_true rfl)
  obtain ⟨ri, ei⟩ : ∃ r, intZ La Lb = r := ⟨_, rfl⟩
  have Ni : ri.length ≤ 120 := by have h := int_len Ba Bb; rw [ei] at h; omega
  have Hi := op_int (a := La) (b := Lb) ei (by omega) (by omega) Ba Bb
  have Ri := fun W p q c d (h : ShAt W W.heap.size p La) (h' : ShAt W W.heap.size q Lb) => ei ▸ rinter_any p q c d La Lb W h h' (by omega) (by omega)
  have Ei := op_eq (a := ri) (b := ri) (by omega) (by omega) (decide_eq_true rfl)
  obtain ⟨rs, es⟩ : ∃ r, subZ La Lb = r := ⟨_, rfl⟩
  have Ns : rs.length ≤ 120 := by have h := sub_len Ba Bb; rw [es] at h; omega
  have Hs := op_sub (a := La) (b := Lb) es (by omega) (by omega) Ba Bb
  have Rs := fun W p q c d (h : ShAt W W.heap.size p La) (h' : ShAt W W.heap.size q Lb) => es ▸ rsub_any p q c d La Lb W h h' (by omega) (by omega) Ba Bb
  have Es := op_eq (a := rs) (b := rs) (by omega) (by omega) (decide_eq_true rfl)
  clear eu ei es
  have bb0 := Below.refl w.heap.size w
  go_enter Try.func4, Try.ntmps4
  go_wp2_with fail
  refine Calls.mono (sane_any _) ?_
  rintro e w1 ⟨rfl, b⟩
  have bb1 := bthen bb0 b
  have Sa := Sa.into b
  have Sb := Sb.into b
  clear b
  go_wp2_with fail
  refine Calls.mono (Fa _) ?_
  rintro e w' ⟨rfl, rfl⟩
  go_wp2_with fail
  refine Calls.mono (Fb _) ?_
  rintro e w' ⟨rfl, rfl⟩
  go_wp2_with fail
  refine Calls.mono (Hu _ pa pb ca cb Sa Sb Ca Cb) ?_
  rintro e w2 ⟨v, rfl, o, b⟩
  have bb2 := bthen bb1 b
  have Sa := Sa.into b
  have Sb := Sb.into b
  obtain ⟨p0, c0, rfl, S0, C0⟩ := own_shc o
  clear o b
  go_wp2_with fail
  refine Calls.mono (Ru _ pa pb ca cb Sa Sb) ?_
  rintro e w3 ⟨p1, c1, rfl, S1, b⟩
  have bb3 := bthen bb2 b
  have Sa := Sa.into b
  have Sb := Sb.into b
  have S0 := S0.into b
  clear b
  go_wp2_with fail
  refine Calls.mono (Eu _ p0 p1 c0 c1 S0 S1) ?_
  rintro e w4 ⟨rfl, b⟩
  have bb4 := bthen bb3 b
  have Sa := Sa.into b
  have Sb := Sb.into b
  clear b
  go_wp2_with fail
  refine Calls.mono (Hi _ pa pb ca cb Sa Sb Ca Cb) ?_
  rintro e w5 ⟨v, rfl, o, b⟩
  have bb5 := bthen bb4 b
  have Sa := Sa.into b
  have Sb := Sb.into b
  obtain ⟨p2, c2, rfl, S2, C2⟩ := own_shc o
  clear o b
  go_wp2_with fail
  refine Calls.mono (Ri _ pa pb ca cb Sa Sb) ?_
  rintro e w6 ⟨p3, c3, rfl, S3, b⟩
  have bb6 := bthen bb5 b
  have Sa := Sa.into b
  have Sb := Sb.into b
  have S2 := S2.into b
  clear b
  go_wp2_with fail
  refine Calls.mono (Ei _ p2 p3 c2 c3 S2 S3) ?_
  rintro e w7 ⟨rfl, b⟩
  have bb7 := bthen bb6 b
  have Sa := Sa.into b
  have Sb := Sb.into b
  clear b
  go_wp2_with fail
  refine Calls.mono (Hs _ pa pb ca cb Sa Sb Ca Cb) ?_
  rintro e w8 ⟨v, rfl, o, b⟩
  have bb8 := bthen bb7 b
  have Sa := Sa.into b
  have Sb := Sb.into b
  obtain ⟨p4, c4, rfl, S4, C4⟩ := own_shc o
  clear o b
  go_wp2_with fail
  refine Calls.mono (Rs _ pa pb ca cb Sa Sb) ?_
  rintro e w9 ⟨p5, c5, rfl, S5, b⟩
  have bb9 := bthen bb8 b
  have Sa := Sa.into b
  have Sb := Sb.into b
  have S4 := S4.into b
  clear b
  go_wp2_with fail
  refine Calls.mono (Es _ p4 p5 c4 c5 S4 S5) ?_
  rintro e w10 ⟨rfl, b⟩
  have bb10 := bthen bb9 b
  have Sa := Sa.into b
  have Sb := Sb.into b
  clear b
  go_wp2_with fail
  go_ret
  exact ⟨rfl, bb10⟩
end Go.Proofs.Ytjocgipjmcnjfaa
