/- WireTruncated's walk. -/
import Derived.Test.YtemdfbnfpdfpeaaDoorWireRT
namespace Go.Proofs.YtemdfbnfpdfpeaaDoor
open Go.RowKit

theorem byt_length (l : List Int) : (byt l).length = l.length := by simp [byt]

theorem dec_short {z : Int} (h0 : 0 ≤ z) (h1 : z ≤ 9223372036854775806) {j : Nat} (hj : j < (enc z).length) : dec ((byt (enc z)).take j) = none := by
  cases h : dec ((byt (enc z)).take j) with
  | none => rfl
  | some p =>
    obtain ⟨y, n⟩ := p
    have hb := dec_bd h
    obtain ⟨_, h3, h4⟩ := dec_inv h
    rw [List.length_take, byt_length] at hb
    rw [List.take_take, Nat.min_eq_left (by omega)] at h4
    have e1 : byt (enc z) = byt (enc y) ++ (byt (enc z)).drop n := by rw [← h4, List.take_append_drop]
    have e2 := dec_enc h0 h1 []
    rw [List.append_nil, e1, dec_enc hb.1 hb.2.1] at e2
    simp only [Option.some.injEq, Prod.mk.injEq] at e2
    omega

theorem enc_prefix {y z : Int} (h0 : 0 ≤ y) (h1 : y ≤ 9223372036854775806) (h2 : 0 ≤ z) (h3 : z ≤ 9223372036854775806) (h : (byt (enc z)).take (enc y).length = byt (enc y)) : y = z := by
  have e1 : byt (enc z) = byt (enc y) ++ (byt (enc z)).drop (enc y).length := by rw [← h, List.take_append_drop]
  have e2 := dec_enc h2 h3 []
  rw [List.append_nil, e1, dec_enc h0 h1] at e2
  simp only [Option.some.injEq, Prod.mk.injEq] at e2
  exact e2.1

theorem intZ_short {n : Int} (h1 : -4611686018427387903 ≤ n) (h2 : n ≤ 4611686018427387903) {j : Nat} (hj : j < (strOfNums (enc (foldZ n))).size) :
    intZ ((strOfNums (enc (foldZ n))).extract 0 j) 0 = (0, 0, 10) := by
  refine intZ_none (k := 0) (Nat.zero_le _) ?_
  rw [List.drop_zero, extract_list, List.drop_zero, encS_list]
  rw [encS_size] at hj
  exact dec_short (foldZ_bd h1 h2).1 (foldZ_bd h1 h2).2 hj

theorem stringZ_short {u : ByteArray} (h : u.size ≤ 65536) {j : Nat} (hj : j < (strOfNums (enc (foldZ (u.size : Int))) ++ u).size) :
    stringZ ((strOfNums (enc (foldZ (u.size : Int))) ++ u).extract 0 j) 0 = (⟨#[]⟩, 0, 10) := by
  have hE := encS_size (foldZ (u.size : Int))
  have hf := foldZ_bd (n := (u.size : Int)) (by omega) (by omega)
  rw [ByteArray.size_append] at hj
  by_cases hs : j < (strOfNums (enc (foldZ (u.size : Int)))).size
  · have e : (strOfNums (enc (foldZ (u.size : Int))) ++ u).extract 0 j = (strOfNums (enc (foldZ (u.size : Int)))).extract 0 j := by
      apply ba_ext
      rw [extract_list, extract_list, app_list, List.take_append_of_le_length (by rw [← size_list]; omega)]
    rw [e]
    unfold stringZ
    rw [intZ_short (by omega) (by omega) hs]; rfl
  · have e : (strOfNums (enc (foldZ (u.size : Int))) ++ u).extract 0 j = ⟨#[]⟩ ++ strOfNums (enc (foldZ (u.size : Int))) ++ u.extract 0 (j - (strOfNums (enc (foldZ (u.size : Int)))).size) := by
      apply ba_ext
      rw [extract_list, app_list, app_list, app_list, extract_list, List.drop_zero, List.drop_zero, List.take_append, ← size_list, List.take_of_length_le (by rw [← size_list]; omega)]
      simp
    rw [e]
    have hi := intZ_put (n := (u.size : Int)) (by omega) (by omega) ⟨#[]⟩ (u.extract 0 (j - (strOfNums (enc (foldZ (u.size : Int)))).size))
    have h0 : ((⟨#[]⟩ : ByteArray).size : Int) = 0 := rfl
    rw [h0] at hi
    unfold stringZ
    rw [hi]
    simp only []
    rw [if_neg (by simp), if_pos]
    simp only [ByteArray.size_append, ByteArray.size_extract]
    have : (⟨#[]⟩ : ByteArray).size = 0 := rfl
    omega
set_option maxRecDepth 100000 in
set_option maxHeartbeats 4000000 in
theorem truncated_any (c d : Int) (t : ByteArray) (k : Int) (w : World) (hc : -9223372036854775808 ≤ c ∧ c ≤ 9223372036854775807) (hd : -9223372036854775808 ≤ d ∧ d ≤ 9223372036854775807) (ht : t.size ≤ 140737488351232) (hk : -9223372036854775808 ≤ k ∧ k ≤ 9223372036854775807)
    (hT : TabAt w) (h0 : 0 < w.heap.size) :
    Calls Tryd.prog 7 #[.int .i64 c, .int .i64 d, .string t, .int .i64 k] w fun e w' => e = .returned (.bool true) ∧ Below w.heap.size w w' := by
  have HT := Lib.hid hT; clear hT
  have nb := numFrom_bd c
  have mb := numFrom_bd d
  have N1 := fun W => numberFrom_any c W hc.1 hc.2
  have N2 := fun W => numberFrom_any d W hd.1 hd.2
  generalize numFrom c = n at *
  generalize numFrom d = m at *
  obtain ⟨A, hA⟩ : ∃ A, A = strOfNums (enc (foldZ n)) := ⟨_, rfl⟩
  obtain ⟨B, hB⟩ : ∃ B, B = strOfNums (enc (foldZ m)) := ⟨_, rfl⟩
  have hAs : A.size ≤ 9 ∧ 1 ≤ A.size := by rw [hA, encS_size]; exact enc_length _
  have hBs : B.size ≤ 9 ∧ 1 ≤ B.size := by rw [hB, encS_size]; exact enc_length _
  have P1 := fun W => putInt_any n W (by omega) (by omega)
  have P2 := fun W => putInt_any m W (by omega) (by omega)
  rw [← hA] at P1
  rw [← hB] at P2
  have hu : (t.extract 0 (min (t.size : Int) 200).toNat).size ≤ 200 := by rw [ByteArray.size_extract]; omega
  obtain ⟨S, hS⟩ : ∃ S, S = strOfNums (enc (foldZ ((t.extract 0 (min (t.size : Int) 200).toNat).size : Int))) ++ t.extract 0 (min (t.size : Int) 200).toNat := ⟨_, rfl⟩
  have hSs : S.size ≤ 209 ∧ 1 ≤ S.size := by rw [hS, ByteArray.size_append, encS_size]; have := enc_length (foldZ ((t.extract 0 (min (t.size : Int) 200).toNat).size : Int)); omega
  have P3 := fun W => putString_all (t.extract 0 (min (t.size : Int) 200).toNat) W (by omega)
  rw [putStringZ_le (by omega), ← hS] at P3
  have q1 := pickZ_bd k A.size (by omega)
  have q2 := pickZ_bd k S.size (by omega)
  have Q1 := fun W => pick_any k A.size W hk.1 hk.2 (by omega) (by omega)
  have Q2 := fun W => pick_any k S.size W hk.1 hk.2 (by omega) (by omega)
  obtain ⟨i, hi⟩ := Int.eq_ofNat_of_zero_le q1.1
  obtain ⟨j, hj⟩ := Int.eq_ofNat_of_zero_le q2.1
  rw [hi] at Q1 q1
  rw [hj] at Q2 q2
  have I1 := fun W => int_all (A.extract 0 i) 0 W (by rw [ByteArray.size_extract]; omega) (by omega) (by omega)
  rw [show intZ (A.extract 0 i) 0 = (0, 0, 10) by rw [hA]; exact intZ_short (by omega) (by omega) (by rw [← hA]; omega)] at I1
  have I2 := fun W => string_all (S.extract 0 j) 0 W (by rw [ByteArray.size_extract]; omega) (by omega) (by omega)
  rw [show stringZ (S.extract 0 j) 0 = (⟨#[]⟩, 0, 10) by rw [hS]; exact stringZ_short (by omega) (by rw [← hS]; omega)] at I2
  generalize hue : t.extract 0 (min (t.size : Int) 200).toNat = u at *
  have Hue := Lib.hid hue
  clear hue
  have hpre : Hid ((n = m ∧ B.extract 0 A.size = A) ∨ (n ≠ m ∧ B.extract 0 A.size ≠ A)) := by
    refine Lib.hid ?_
    by_cases e : n = m
    · left
      refine ⟨e, ?_⟩
      subst e
      rw [hB, ← hA]
      apply ba_ext
      rw [extract_list, List.drop_zero, size_list, List.take_length]
    · right
      refine ⟨e, fun h => e ?_⟩
      have h2 := congrArg (fun b => b.data.toList) h
      simp only [extract_list, List.drop_zero] at h2
      rw [hA, hB, encS_size, encS_list, encS_list] at h2
      have f1 := foldZ_bd (n := n) (by omega) (by omega)
      have f2 := foldZ_bd (n := m) (by omega) (by omega)
      have := enc_prefix f1.1 f1.2 f2.1 f2.2 h2
      rw [← unfold_fold n, this, unfold_fold]
  clear hA hB hS hi hj
  have ha0 : ((A.size : Int) == 0) = false := by simp only [beq_eq_false_iff_ne]; omega
  have ha1 : (A.size == 0) = false := by simp only [beq_eq_false_iff_ne]; omega
  have hs0 : ((S.size : Int) == 0) = false := by simp only [beq_eq_false_iff_ne]; omega
  have hs1 : (S.size == 0) = false := by simp only [beq_eq_false_iff_ne]; omega
  go_enter Tryd.func7, Tryd.ntmps7
  go_wp2_with fail
  refine (sane_any _ HT.out h0).mono ?_; rintro e w1 ⟨rfl, b1⟩
  go_wp2_with fail
  refine (N1 _).mono ?_; rintro e w2 ⟨rfl, b2⟩
  go_wp2_with fail
  refine (P1 _).mono ?_; rintro e w3 ⟨rfl, b3⟩
  go_wp2_with fail
  refine (N2 _).mono ?_; rintro e w4 ⟨rfl, b4⟩
  go_wp2_with fail
  refine (P2 _).mono ?_; rintro e w5 ⟨rfl, b5⟩
  clear P1 P2
  go_wp2_with fail
  rw [Hue.out]
  refine (P3 _).mono ?_; rintro e w6 ⟨rfl, b6⟩
  clear P3
  go_wp2_with fail
  refine (Q1 _).mono ?_; rintro e w7 ⟨rfl, rfl⟩
  go_wp2_with fail
  refine (I1 _).mono ?_; rintro e w7 ⟨rfl, rfl⟩
  clear Q1 I1
  go_wp2_with fail
  refine (Q2 _).mono ?_; rintro e w7 ⟨rfl, rfl⟩
  go_wp2_with fail
  refine (I2 _).mono ?_; rintro e w7 ⟨rfl, b7⟩
  clear Q2 I2
  rcases hpre.out with ⟨rfl, hp⟩ | ⟨hne, hp⟩
  · have hAB : A.size ≤ B.size := by
      have := congrArg ByteArray.size hp
      rw [ByteArray.size_extract] at this; omega
    clear hpre
    go_wp2_with fail
    refine (N1 _).mono ?_; rintro e w8 ⟨rfl, b8⟩
    go_wp2_with fail
    refine (N2 _).mono ?_; rintro e w9 ⟨rfl, b9⟩
    go_wp2
    go_ret
    exact ⟨by simp, bthen (bthen (bthen (bthen (bthen (bthen (bthen (bthen b1 b2) b3) b4) b5) b6) b7) b8) b9⟩
  · have hnm : (n == m) = false := by simpa using hne
    clear hpre
    by_cases hAB : A.size ≤ B.size
    · have hp' : ((B.extract 0 A.size).toList == A.toList) = false := by
        rw [beq_eq_false_iff_ne, ByteArray.toList_eq, ByteArray.toList_eq]; exact fun h => hp (ba_ext h)
      go_wp2_with fail
      refine (N1 _).mono ?_; rintro e w8 ⟨rfl, b8⟩
      go_wp2_with fail
      refine (N2 _).mono ?_; rintro e w9 ⟨rfl, b9⟩
      go_wp2
      go_ret
      exact ⟨by simp, bthen (bthen (bthen (bthen (bthen (bthen (bthen (bthen b1 b2) b3) b4) b5) b6) b7) b8) b9⟩
    · go_wp2_with fail
      refine (N1 _).mono ?_; rintro e w8 ⟨rfl, b8⟩
      go_wp2_with fail
      refine (N2 _).mono ?_; rintro e w9 ⟨rfl, b9⟩
      go_wp2
      go_ret
      exact ⟨by simp, bthen (bthen (bthen (bthen (bthen (bthen (bthen (bthen b1 b2) b3) b4) b5) b6) b7) b8) b9⟩
end Go.Proofs.YtemdfbnfpdfpeaaDoor
