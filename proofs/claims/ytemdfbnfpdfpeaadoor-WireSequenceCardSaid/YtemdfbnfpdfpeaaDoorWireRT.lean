/- WireRoundTrip's walk. -/
import Derived.Test.YtemdfbnfpdfpeaaDoorWireCode
import Derived.Test.YtemdfbnfpdfpeaaDoorWireSane
import Derived.Test.YtemdfbnfpdfpeaaDoorWireNum
namespace Go.Proofs.YtemdfbnfpdfpeaaDoor
open Go.RowKit

theorem extract_list (s : ByteArray) (i j : Nat) : (s.extract i j).data.toList = (s.data.toList.take j).drop i := by
  rw [ByteArray.data_extract, Array.toList_extract, List.extract_eq_take_drop, List.drop_take]
theorem ba_ext {a b : ByteArray} (h : a.data.toList = b.data.toList) : a = b := ByteArray.ext (Array.ext' h)

theorem foldZ_size (t : ByteArray) : foldZ (t.size : Int) = 2 * (t.size : Int) := by unfold foldZ; rw [if_neg (by omega)]
theorem putStringZ_le {t : ByteArray} (h : t.size ≤ 65536) : putStringZ t = (strOfNums (enc (foldZ (t.size : Int))) ++ t, 0) := by
  rw [foldZ_size]; exact if_neg (by omega)

theorem stringZ_put {t : ByteArray} (h : t.size ≤ 65536) (p q : ByteArray) :
    stringZ (p ++ (strOfNums (enc (foldZ (t.size : Int))) ++ t) ++ q) p.size = (t, (p.size : Int) + ((strOfNums (enc (foldZ (t.size : Int)))) ++ t).size, 0) := by
  have e : p ++ (strOfNums (enc (foldZ (t.size : Int))) ++ t) ++ q = p ++ strOfNums (enc (foldZ (t.size : Int))) ++ (t ++ q) := by
    apply ba_ext; simp only [app_list, List.append_assoc]
  rw [e]
  unfold stringZ
  rw [intZ_put (by omega) (by omega) p (t ++ q)]
  have hE := encS_size (foldZ (t.size : Int))
  generalize strOfNums (enc (foldZ (t.size : Int))) = E at *
  simp only []
  rw [if_neg (by simp), if_neg (by simp only [ByteArray.size_append]; omega), ByteArray.size_append]
  have e1 : ((p.size : Int) + E.size).toNat = (p ++ E).size := by rw [ByteArray.size_append]; omega
  have e2 : ((p.size : Int) + E.size + t.size).toNat = (p ++ E).size + t.size := by rw [ByteArray.size_append]; omega
  rw [e1, e2]
  simp only [Prod.mk.injEq, and_true]
  refine ⟨ba_ext ?_, by omega⟩
  rw [extract_list, app_list, app_list t q, size_list (p ++ E), size_list t, List.take_length_add_append, List.drop_left, List.take_left']
  rfl
set_option maxRecDepth 100000 in
set_option maxHeartbeats 2000000 in
theorem roundTrip_any (c : Int) (t x y : ByteArray) (w : World) (h1 : -9223372036854775808 ≤ c) (h2 : c ≤ 9223372036854775807) (ht : t.size ≤ 140737488351232) (hx : x.size ≤ 140737488351232) (hy : y.size ≤ 140737488351232)
    (hT : TabAt w) (h0 : 0 < w.heap.size) :
    Calls Tryd.prog 4 #[.int .i64 c, .string t, .agg #[.string x, .string y]] w fun e w' => e = .returned (.bool true) ∧ Below w.heap.size w w' := by
  have HT := Lib.hid hT; clear hT
  go_enter Tryd.func4, Tryd.ntmps4
  go_wp2_with fail
  have b0 : Below w.heap.size w (w.alloc (.cells #[.string x, .string y] 36)) := (Below.refl _ _).alloc (Nat.le_refl _) _
  refine (sane_any _ (HT.out.below b0 h0) (by simp)).mono ?_; rintro e w1 ⟨rfl, b1⟩
  have cx : w1.cell? ⟨w.heap.size, 0, none⟩ = some (.string x) := (b1.cell (p := ⟨w.heap.size, 0, none⟩) (by simp)).trans (by simp)
  have cy : w1.cell? ⟨w.heap.size, 1, none⟩ = some (.string y) := (b1.cell (p := ⟨w.heap.size, 1, none⟩) (by simp)).trans (by simp)
  have z1 : w.heap.size < w1.heap.size := by have := b1.size; simp at this; omega
  go_wp2_with fail
  refine (numberFrom_any _ _ h1 h2).mono ?_; rintro e w2 ⟨rfl, b2⟩
  replace cx := (b2.cell (p := ⟨w.heap.size, 0, none⟩) z1).trans cx
  replace cy := (b2.cell (p := ⟨w.heap.size, 1, none⟩) z1).trans cy
  go_wp2_with fail
  have nb := numFrom_bd c
  generalize numFrom c = n at *
  obtain ⟨E, hE⟩ : ∃ E, E = strOfNums (enc (foldZ n)) := ⟨_, rfl⟩
  have hEs : E.size ≤ 9 := by rw [hE, encS_size]; exact (enc_length _).1
  have hp : (x.extract 0 (min (x.size : Int) 200).toNat).size ≤ 200 := by rw [ByteArray.size_extract]; omega
  have hq : (y.extract 0 (min (y.size : Int) 200).toNat).size ≤ 200 := by rw [ByteArray.size_extract]; omega
  have hu : (t.extract 0 (min (t.size : Int) 200).toNat).size ≤ 200 := by rw [ByteArray.size_extract]; omega
  generalize x.extract 0 (min (x.size : Int) 200).toNat = p at *
  generalize y.extract 0 (min (y.size : Int) 200).toNat = q at *
  generalize t.extract 0 (min (t.size : Int) 200).toNat = u at *
  have hP := putInt_any n w2 (by omega) (by omega)
  have hI := intZ_put (n := n) (by omega) (by omega) p q
  have hS := stringZ_put (t := u) (by omega) p q
  obtain ⟨S, hSd⟩ : ∃ S, S = strOfNums (enc (foldZ (u.size : Int))) ++ u := ⟨_, rfl⟩
  have hSs : S.size ≤ 209 := by rw [hSd, ByteArray.size_append, encS_size]; have := (enc_length (foldZ (u.size : Int))).1; omega
  rw [← hE] at hP hI
  rw [← hSd] at hS
  have HI := Lib.hid hI
  have HS := Lib.hid hS
  have HSd := Lib.hid hSd
  clear hI hS hE hSd
  refine hP.mono ?_; rintro e w3 ⟨rfl, b3⟩
  clear hP
  go_wp2_with fail
  have hP2 := putString_all u w3 (by omega)
  rw [putStringZ_le (by omega), ← HSd.out] at hP2
  refine hP2.mono ?_; rintro e w4 ⟨rfl, b4⟩
  clear hP2
  go_wp2_with fail
  have hI2 := int_all (p ++ E ++ q) p.size w4 (by simp only [ByteArray.size_append]; omega) (by omega) (by omega)
  rw [HI.out] at hI2
  refine hI2.mono ?_; rintro e w5 ⟨rfl, rfl⟩
  clear hI2
  go_wp2_with fail
  have hS2 := string_all (p ++ S ++ q) p.size w4 (by simp only [ByteArray.size_append]; omega) (by omega) (by omega)
  rw [HS.out] at hS2
  refine hS2.mono ?_; rintro e w5 ⟨rfl, b5⟩
  clear hS2
  go_wp2
  go_ret
  exact ⟨by simp, bthen (bthen (bthen (b0.trans ((bthen b1 b2).mono (by simp))) (b3.mono (Nat.le_refl _))) b4) b5⟩
end Go.Proofs.YtemdfbnfpdfpeaaDoor
