/- SpanAlgebra. -/
import Derived.Test.YtjocgipjmcnjfaaSpAlgM
import Derived.Test.YtjocgipjmcnjfaaSpSane
namespace Go.Proofs.Ytjocgipjmcnjfaa
open Go.RowKit Go.Shelf

set_option maxRecDepth 100000 in
set_option maxHeartbeats 8000000 in
theorem algebra_law (pa : Option Addr) (ca : Nat) (a : List (Int × Int)) (la : a.length ≤ 9223372036854775807) (ka : a.length ≤ ca) (ma : ca ≤ 9223372036854775807) (pb : Option Addr) (cb : Nat) (b : List (Int × Int)) (lb : b.length ≤ 9223372036854775807) (kb : b.length ≤ cb) (mb : cb ≤ 9223372036854775807) (pc : Option Addr) (cc : Nat) (c : List (Int × Int)) (lc : c.length ≤ 9223372036854775807) (kc : c.length ≤ cc) (mc : cc ≤ 9223372036854775807) (w : World) (Sa : ShAt w w.heap.size pa a) (Ba : Bd a) (Sb : ShAt w w.heap.size pb b) (Bb : Bd b) (Sc : ShAt w w.heap.size pc c) (Bc : Bd c) :
    Calls Try.prog 7 #[.slice pa a.length ca, .slice pb b.length cb, .slice pc c.length cc] w fun e w' => e = .returned (.bool true) ∧ Below w.heap.size w w' := by
  have Fa := fun W => few_any pa ca a W la ka ma
  have Sa := Sa.take 30
  have Ba := Ba.take 30
  have Na := few_len a
  have Ca : (a.take 30).length ≤ ca := Nat.le_trans (by rw [List.length_take]; omega) ka
  obtain ⟨na, hna⟩ : ∃ n, a.length = n := ⟨_, rfl⟩
  rw [hna] at Fa ⊢
  generalize a.take 30 = La at Fa Sa Ba Na Ca
  clear hna la ka ma
  have Fb := fun W => few_any pb cb b W lb kb mb
  have Sb := Sb.take 30
  have Bb := Bb.take 30
  have Nb := few_len b
  have Cb : (b.take 30).length ≤ cb := Nat.le_trans (by rw [List.length_take]; omega) kb
  obtain ⟨nb, hnb⟩ : ∃ n, b.length = n := ⟨_, rfl⟩
  rw [hnb] at Fb ⊢
  generalize b.take 30 = Lb at Fb Sb Bb Nb Cb
  clear hnb lb kb mb
  have Fc := fun W => few_any pc cc c W lc kc mc
  have Sc := Sc.take 30
  have Bc := Bc.take 30
  have Nc := few_len c
  have Cc : (c.take 30).length ≤ cc := Nat.le_trans (by rw [List.length_take]; omega) kc
  obtain ⟨nc, hnc⟩ : ∃ n, c.length = n := ⟨_, rfl⟩
  rw [hnc] at Fc ⊢
  generalize c.take 30 = Lc at Fc Sc Bc Nc Cc
  clear hnc lc kc mc
  obtain ⟨uab, euab⟩ : ∃ r, uniZ La Lb = r := ⟨_, rfl⟩
  have Buab : Bd uab := euab ▸ Bd.uni Ba Bb
  have Nuab : uab.length ≤ 120 := by have h := uni_len Ba Bb; rw [euab] at h; omega
  obtain ⟨iab, eiab⟩ : ∃ r, intZ La Lb = r := ⟨_, rfl⟩
  have Biab : Bd iab := eiab ▸ Bd.int Ba
  have Niab : iab.length ≤ 120 := by have h := int_len Ba Bb; rw [eiab] at h; omega
  obtain ⟨ubc, eubc⟩ : ∃ r, uniZ Lb Lc = r := ⟨_, rfl⟩
  have Bubc : Bd ubc := eubc ▸ Bd.uni Bb Bc
  have Nubc : ubc.length ≤ 120 := by have h := uni_len Bb Bc; rw [eubc] at h; omega
  obtain ⟨uabc, euabc⟩ : ∃ r, uniZ La ubc = r := ⟨_, rfl⟩
  have Buabc : Bd uabc := euabc ▸ Bd.uni Ba Bubc
  have Nuabc : uabc.length ≤ 300 := by have h := uni_len Ba Bubc; rw [euabc] at h; omega
  obtain ⟨ibc, eibc⟩ : ∃ r, intZ Lb Lc = r := ⟨_, rfl⟩
  have Bibc : Bd ibc := eibc ▸ Bd.int Bb
  have Nibc : ibc.length ≤ 120 := by have h := int_len Bb Bc; rw [eibc] at h; omega
  obtain ⟨iabc, eiabc⟩ : ∃ r, intZ La ibc = r := ⟨_, rfl⟩
  have Biabc : Bd iabc := eiabc ▸ Bd.int Ba
  have Niabc : iabc.length ≤ 300 := by have h := int_len Ba Bibc; rw [eiabc] at h; omega
  obtain ⟨iac, eiac⟩ : ∃ r, intZ La Lc = r := ⟨_, rfl⟩
  have Biac : Bd iac := eiac ▸ Bd.int Ba
  have Niac : iac.length ≤ 120 := by have h := int_len Ba Bc; rw [eiac] at h; omega
  obtain ⟨r4, er4⟩ : ∃ r, intZ La ubc = r := ⟨_, rfl⟩
  have Br4 : Bd r4 := er4 ▸ Bd.int Ba
  have Nr4 : r4.length ≤ 300 := by have h := int_len Ba Bubc; rw [er4] at h; omega
  obtain ⟨uac, euac⟩ : ∃ r, uniZ La Lc = r := ⟨_, rfl⟩
  have Buac : Bd uac := euac ▸ Bd.uni Ba Bc
  have Nuac : uac.length ≤ 120 := by have h := uni_len Ba Bc; rw [euac] at h; omega
  obtain ⟨r5, er5⟩ : ∃ r, uniZ La ibc = r := ⟨_, rfl⟩
  have Br5 : Bd r5 := er5 ▸ Bd.uni Ba Bibc
  have Nr5 : r5.length ≤ 300 := by have h := uni_len Ba Bibc; rw [er5] at h; omega
  obtain ⟨sab, esab⟩ : ∃ r, subZ La Lb = r := ⟨_, rfl⟩
  have Bsab : Bd sab := esab ▸ Bd.sub Ba
  have Nsab : sab.length ≤ 120 := by have h := sub_len Ba Bb; rw [esab] at h; omega
  obtain ⟨r6, er6⟩ : ∃ r, subZ La ubc = r := ⟨_, rfl⟩
  have Br6 : Bd r6 := er6 ▸ Bd.sub Ba
  have Nr6 : r6.length ≤ 300 := by have h := sub_len Ba Bubc; rw [er6] at h; omega
  obtain ⟨na, ena⟩ : ∃ r, nrmZ La = r := ⟨_, rfl⟩
  have Bna : Bd na := ena ▸ Bd.nrm Ba
  have Nna : na.length ≤ 20000 := by have h := nrm_len La; rw [ena] at h; omega
  have Hn := op_nrm (a := La) ena (by omega)
  have H1 := op_uni (a := La) (b := Lb) (r := uab) euab (by omega) (by omega) Ba Bb
  have H2 := op_uni (a := Lb) (b := La) (r := uab) (by rw [uni_comm]; exact euab) (by omega) (by omega) Bb Ba
  have H3 := op_int (a := La) (b := Lb) (r := iab) eiab (by omega) (by omega) Ba Bb
  have H4 := op_int (a := Lb) (b := La) (r := iab) (by rw [int_comm]; exact eiab) (by omega) (by omega) Bb Ba
  have H5 := op_uni (a := Lb) (b := Lc) (r := ubc) eubc (by omega) (by omega) Bb Bc
  have H6 := op_uni (a := La) (b := ubc) (r := uabc) euabc (by omega) (by omega) Ba Bubc
  have H7 := op_uni (a := La) (b := Lb) (r := uab) euab (by omega) (by omega) Ba Bb
  have H8 := op_uni (a := uab) (b := Lc) (r := uabc) (by rw [← euabc, ← eubc, uni_assoc, euab]) (by omega) (by omega) Buab Bc
  have H9 := op_int (a := Lb) (b := Lc) (r := ibc) eibc (by omega) (by omega) Bb Bc
  have H10 := op_int (a := La) (b := ibc) (r := iabc) eiabc (by omega) (by omega) Ba Bibc
  have H11 := op_int (a := La) (b := Lb) (r := iab) eiab (by omega) (by omega) Ba Bb
  have H12 := op_int (a := iab) (b := Lc) (r := iabc) (by rw [← eiabc, ← eibc, int_assoc, eiab]) (by omega) (by omega) Biab Bc
  have H13 := op_uni (a := La) (b := La) (r := na) (by rw [uni_self]; exact ena) (by omega) (by omega) Ba Ba
  have H14 := op_int (a := La) (b := La) (r := na) (by rw [int_self]; exact ena) (by omega) (by omega) Ba Ba
  have H15 := op_sub (a := La) (b := La) (r := []) (by exact sub_self La) (by omega) (by omega) Ba Ba
  have H16 := op_uni (a := Lb) (b := Lc) (r := ubc) eubc (by omega) (by omega) Bb Bc
  have H17 := op_int (a := La) (b := ubc) (r := r4) er4 (by omega) (by omega) Ba Bubc
  have H18 := op_int (a := La) (b := Lb) (r := iab) eiab (by omega) (by omega) Ba Bb
  have H19 := op_int (a := La) (b := Lc) (r := iac) eiac (by omega) (by omega) Ba Bc
  have H20 := op_uni (a := iab) (b := iac) (r := r4) (by rw [← er4, ← eubc, int_uni, eiab, eiac]) (by omega) (by omega) Biab Biac
  have H21 := op_int (a := Lb) (b := Lc) (r := ibc) eibc (by omega) (by omega) Bb Bc
  have H22 := op_uni (a := La) (b := ibc) (r := r5) er5 (by omega) (by omega) Ba Bibc
  have H23 := op_uni (a := La) (b := Lb) (r := uab) euab (by omega) (by omega) Ba Bb
  have H24 := op_uni (a := La) (b := Lc) (r := uac) euac (by omega) (by omega) Ba Bc
  have H25 := op_int (a := uab) (b := uac) (r := r5) (by rw [← er5, ← eibc, uni_int, euab, euac]) (by omega) (by omega) Buab Buac
  have H26 := op_uni (a := Lb) (b := Lc) (r := ubc) eubc (by omega) (by omega) Bb Bc
  have H27 := op_sub (a := La) (b := ubc) (r := r6) er6 (by omega) (by omega) Ba Bubc
  have H28 := op_sub (a := La) (b := Lb) (r := sab) esab (by omega) (by omega) Ba Bb
  have H29 := op_sub (a := sab) (b := Lc) (r := r6) (by rw [← er6, ← eubc, sub_uni, esab]) (by omega) (by omega) Bsab Bc
  have H30 := op_int (a := La) (b := Lb) (r := iab) eiab (by omega) (by omega) Ba Bb
  have H31 := op_sub (a := La) (b := Lb) (r := sab) esab (by omega) (by omega) Ba Bb
  have H32 := op_uni (a := iab) (b := sab) (r := na) (by rw [← ena, ← int_sub La Lb, eiab, esab]) (by omega) (by omega) Biab Bsab
  have Euab := op_eq (a := uab) (b := uab) (by omega) (by omega) (decide_eq_true rfl)
  have Eiab := op_eq (a := iab) (b := iab) (by omega) (by omega) (decide_eq_true rfl)
  have Euabc := op_eq (a := uabc) (b := uabc) (by omega) (by omega) (decide_eq_true rfl)
  have Eiabc := op_eq (a := iabc) (b := iabc) (by omega) (by omega) (decide_eq_true rfl)
  have Ena := op_eq (a := na) (b := na) (by omega) (by omega) (decide_eq_true rfl)
  have Er4 := op_eq (a := r4) (b := r4) (by omega) (by omega) (decide_eq_true rfl)
  have Er5 := op_eq (a := r5) (b := r5) (by omega) (by omega) (decide_eq_true rfl)
  have Er6 := op_eq (a := r6) (b := r6) (by omega) (by omega) (decide_eq_true rfl)
  clear eiab eiabc eiac eibc ena er4 er5 er6 esab euab euabc euac eubc
  have bb0 := Below.refl w.heap.size w
  go_enter Try.func7, Try.ntmps7
  go_wp2_with fail
  refine Calls.mono (sane_any _) ?_
  rintro e w1 ⟨rfl, b⟩
  have bb1 := bthen bb0 b
  have Sa := Sa.into b
  have Sb := Sb.into b
  have Sc := Sc.into b
  clear b
  go_wp2_with fail
  refine Calls.mono (Fa _) ?_
  rintro e w' ⟨rfl, rfl⟩
  go_wp2_with fail
  refine Calls.mono (Fb _) ?_
  rintro e w' ⟨rfl, rfl⟩
  go_wp2_with fail
  refine Calls.mono (Fc _) ?_
  rintro e w' ⟨rfl, rfl⟩
  go_wp2_with fail
  refine Calls.mono (H1 _ pa pb ca cb Sa Sb Ca Cb) ?_
  rintro e w2 ⟨v, rfl, o, b⟩
  have bb2 := bthen bb1 b
  have Sa := Sa.into b
  have Sb := Sb.into b
  have Sc := Sc.into b
  obtain ⟨p0, c0, rfl, S0, C0⟩ := own_shc o
  clear o b
  go_wp2_with fail
  refine Calls.mono (H2 _ pb pa cb ca Sb Sa Cb Ca) ?_
  rintro e w3 ⟨v, rfl, o, b⟩
  have bb3 := bthen bb2 b
  have Sa := Sa.into b
  have Sb := Sb.into b
  have Sc := Sc.into b
  have S0 := S0.into b
  obtain ⟨p1, c1, rfl, S1, C1⟩ := own_shc o
  clear o b
  go_wp2_with fail
  refine Calls.mono (Euab _ p0 p1 c0 c1 S0 S1) ?_
  rintro e w4 ⟨rfl, b⟩
  have bb4 := bthen bb3 b
  have Sa := Sa.into b
  have Sb := Sb.into b
  have Sc := Sc.into b
  clear b
  go_wp2_with fail
  refine Calls.mono (H3 _ pa pb ca cb Sa Sb Ca Cb) ?_
  rintro e w5 ⟨v, rfl, o, b⟩
  have bb5 := bthen bb4 b
  have Sa := Sa.into b
  have Sb := Sb.into b
  have Sc := Sc.into b
  obtain ⟨p2, c2, rfl, S2, C2⟩ := own_shc o
  clear o b
  go_wp2_with fail
  refine Calls.mono (H4 _ pb pa cb ca Sb Sa Cb Ca) ?_
  rintro e w6 ⟨v, rfl, o, b⟩
  have bb6 := bthen bb5 b
  have Sa := Sa.into b
  have Sb := Sb.into b
  have Sc := Sc.into b
  have S2 := S2.into b
  obtain ⟨p3, c3, rfl, S3, C3⟩ := own_shc o
  clear o b
  go_wp2_with fail
  refine Calls.mono (Eiab _ p2 p3 c2 c3 S2 S3) ?_
  rintro e w7 ⟨rfl, b⟩
  have bb7 := bthen bb6 b
  have Sa := Sa.into b
  have Sb := Sb.into b
  have Sc := Sc.into b
  clear b
  go_wp2_with fail
  refine Calls.mono (H5 _ pb pc cb cc Sb Sc Cb Cc) ?_
  rintro e w8 ⟨v, rfl, o, b⟩
  have bb8 := bthen bb7 b
  have Sa := Sa.into b
  have Sb := Sb.into b
  have Sc := Sc.into b
  obtain ⟨p4, c4, rfl, S4, C4⟩ := own_shc o
  clear o b
  go_wp2_with fail
  refine Calls.mono (H6 _ pa p4 ca c4 Sa S4 Ca C4) ?_
  rintro e w9 ⟨v, rfl, o, b⟩
  have bb9 := bthen bb8 b
  have Sa := Sa.into b
  have Sb := Sb.into b
  have Sc := Sc.into b
  have S4 := S4.into b
  obtain ⟨p5, c5, rfl, S5, C5⟩ := own_shc o
  clear o b
  go_wp2_with fail
  refine Calls.mono (H7 _ pa pb ca cb Sa Sb Ca Cb) ?_
  rintro e w10 ⟨v, rfl, o, b⟩
  have bb10 := bthen bb9 b
  have Sa := Sa.into b
  have Sb := Sb.into b
  have Sc := Sc.into b
  have S4 := S4.into b
  have S5 := S5.into b
  obtain ⟨p6, c6, rfl, S6, C6⟩ := own_shc o
  clear o b
  go_wp2_with fail
  refine Calls.mono (H8 _ p6 pc c6 cc S6 Sc C6 Cc) ?_
  rintro e w11 ⟨v, rfl, o, b⟩
  have bb11 := bthen bb10 b
  have Sa := Sa.into b
  have Sb := Sb.into b
  have Sc := Sc.into b
  have S4 := S4.into b
  have S5 := S5.into b
  have S6 := S6.into b
  obtain ⟨p7, c7, rfl, S7, C7⟩ := own_shc o
  clear o b
  go_wp2_with fail
  refine Calls.mono (Euabc _ p5 p7 c5 c7 S5 S7) ?_
  rintro e w12 ⟨rfl, b⟩
  have bb12 := bthen bb11 b
  have Sa := Sa.into b
  have Sb := Sb.into b
  have Sc := Sc.into b
  have S4 := S4.into b
  have S6 := S6.into b
  clear b
  go_wp2_with fail
  refine Calls.mono (H9 _ pb pc cb cc Sb Sc Cb Cc) ?_
  rintro e w13 ⟨v, rfl, o, b⟩
  have bb13 := bthen bb12 b
  have Sa := Sa.into b
  have Sb := Sb.into b
  have Sc := Sc.into b
  have S4 := S4.into b
  have S6 := S6.into b
  obtain ⟨p8, c8, rfl, S8, C8⟩ := own_shc o
  clear o b
  go_wp2_with fail
  refine Calls.mono (H10 _ pa p8 ca c8 Sa S8 Ca C8) ?_
  rintro e w14 ⟨v, rfl, o, b⟩
  have bb14 := bthen bb13 b
  have Sa := Sa.into b
  have Sb := Sb.into b
  have Sc := Sc.into b
  have S4 := S4.into b
  have S6 := S6.into b
  obtain ⟨p9, c9, rfl, S9, C9⟩ := own_shc o
  clear o b
  go_wp2_with fail
  refine Calls.mono (H11 _ pa pb ca cb Sa Sb Ca Cb) ?_
  rintro e w15 ⟨v, rfl, o, b⟩
  have bb15 := bthen bb14 b
  have Sa := Sa.into b
  have Sb := Sb.into b
  have Sc := Sc.into b
  have S4 := S4.into b
  have S6 := S6.into b
  have S9 := S9.into b
  obtain ⟨p10, c10, rfl, S10, C10⟩ := own_shc o
  clear o b
  go_wp2_with fail
  refine Calls.mono (H12 _ p10 pc c10 cc S10 Sc C10 Cc) ?_
  rintro e w16 ⟨v, rfl, o, b⟩
  have bb16 := bthen bb15 b
  have Sa := Sa.into b
  have Sb := Sb.into b
  have Sc := Sc.into b
  have S4 := S4.into b
  have S6 := S6.into b
  have S9 := S9.into b
  obtain ⟨p11, c11, rfl, S11, C11⟩ := own_shc o
  clear o b
  go_wp2_with fail
  refine Calls.mono (Eiabc _ p9 p11 c9 c11 S9 S11) ?_
  rintro e w17 ⟨rfl, b⟩
  have bb17 := bthen bb16 b
  have Sa := Sa.into b
  have Sb := Sb.into b
  have Sc := Sc.into b
  have S4 := S4.into b
  have S6 := S6.into b
  clear b
  go_wp2_with fail
  refine Calls.mono (H13 _ pa pa ca ca Sa Sa Ca Ca) ?_
  rintro e w18 ⟨v, rfl, o, b⟩
  have bb18 := bthen bb17 b
  have Sa := Sa.into b
  have Sb := Sb.into b
  have Sc := Sc.into b
  have S4 := S4.into b
  have S6 := S6.into b
  obtain ⟨p12, c12, rfl, S12, C12⟩ := own_shc o
  clear o b
  go_wp2_with fail
  refine Calls.mono (Hn _ pa ca Sa) ?_
  rintro e w19 ⟨v, rfl, o, b⟩
  have bb19 := bthen bb18 b
  have Sa := Sa.into b
  have Sb := Sb.into b
  have Sc := Sc.into b
  have S4 := S4.into b
  have S6 := S6.into b
  have S12 := S12.into b
  obtain ⟨p13, c13, rfl, S13, C13⟩ := own_shc o
  clear o b
  go_wp2_with fail
  refine Calls.mono (Ena _ p12 p13 c12 c13 S12 S13) ?_
  rintro e w20 ⟨rfl, b⟩
  have bb20 := bthen bb19 b
  have Sa := Sa.into b
  have Sb := Sb.into b
  have Sc := Sc.into b
  have S4 := S4.into b
  have S6 := S6.into b
  clear b
  go_wp2_with fail
  refine Calls.mono (H14 _ pa pa ca ca Sa Sa Ca Ca) ?_
  rintro e w21 ⟨v, rfl, o, b⟩
  have bb21 := bthen bb20 b
  have Sa := Sa.into b
  have Sb := Sb.into b
  have Sc := Sc.into b
  have S4 := S4.into b
  have S6 := S6.into b
  obtain ⟨p14, c14, rfl, S14, C14⟩ := own_shc o
  clear o b
  go_wp2_with fail
  refine Calls.mono (Hn _ pa ca Sa) ?_
  rintro e w22 ⟨v, rfl, o, b⟩
  have bb22 := bthen bb21 b
  have Sa := Sa.into b
  have Sb := Sb.into b
  have Sc := Sc.into b
  have S4 := S4.into b
  have S6 := S6.into b
  have S14 := S14.into b
  obtain ⟨p15, c15, rfl, S15, C15⟩ := own_shc o
  clear o b
  go_wp2_with fail
  refine Calls.mono (Ena _ p14 p15 c14 c15 S14 S15) ?_
  rintro e w23 ⟨rfl, b⟩
  have bb23 := bthen bb22 b
  have Sa := Sa.into b
  have Sb := Sb.into b
  have Sc := Sc.into b
  have S4 := S4.into b
  have S6 := S6.into b
  clear b
  go_wp2_with fail
  refine Calls.mono (H15 _ pa pa ca ca Sa Sa Ca Ca) ?_
  rintro e w24 ⟨v, rfl, o, b⟩
  have bb24 := bthen bb23 b
  have Sa := Sa.into b
  have Sb := Sb.into b
  have Sc := Sc.into b
  have S4 := S4.into b
  have S6 := S6.into b
  obtain ⟨p16, c16, rfl, S16, C16⟩ := own_shc o
  clear o b
  go_wp2_with fail
  refine Calls.mono (H16 _ pb pc cb cc Sb Sc Cb Cc) ?_
  rintro e w25 ⟨v, rfl, o, b⟩
  have bb25 := bthen bb24 b
  have Sa := Sa.into b
  have Sb := Sb.into b
  have Sc := Sc.into b
  have S4 := S4.into b
  have S6 := S6.into b
  obtain ⟨p17, c17, rfl, S17, C17⟩ := own_shc o
  clear o b
  go_wp2_with fail
  refine Calls.mono (H17 _ pa p17 ca c17 Sa S17 Ca C17) ?_
  rintro e w26 ⟨v, rfl, o, b⟩
  have bb26 := bthen bb25 b
  have Sa := Sa.into b
  have Sb := Sb.into b
  have Sc := Sc.into b
  have S4 := S4.into b
  have S6 := S6.into b
  have S17 := S17.into b
  obtain ⟨p18, c18, rfl, S18, C18⟩ := own_shc o
  clear o b
  go_wp2_with fail
  refine Calls.mono (H18 _ pa pb ca cb Sa Sb Ca Cb) ?_
  rintro e w27 ⟨v, rfl, o, b⟩
  have bb27 := bthen bb26 b
  have Sa := Sa.into b
  have Sb := Sb.into b
  have Sc := Sc.into b
  have S4 := S4.into b
  have S6 := S6.into b
  have S17 := S17.into b
  have S18 := S18.into b
  obtain ⟨p19, c19, rfl, S19, C19⟩ := own_shc o
  clear o b
  go_wp2_with fail
  refine Calls.mono (H19 _ pa pc ca cc Sa Sc Ca Cc) ?_
  rintro e w28 ⟨v, rfl, o, b⟩
  have bb28 := bthen bb27 b
  have Sa := Sa.into b
  have Sb := Sb.into b
  have Sc := Sc.into b
  have S4 := S4.into b
  have S6 := S6.into b
  have S17 := S17.into b
  have S18 := S18.into b
  have S19 := S19.into b
  obtain ⟨p20, c20, rfl, S20, C20⟩ := own_shc o
  clear o b
  go_wp2_with fail
  refine Calls.mono (H20 _ p19 p20 c19 c20 S19 S20 C19 C20) ?_
  rintro e w29 ⟨v, rfl, o, b⟩
  have bb29 := bthen bb28 b
  have Sa := Sa.into b
  have Sb := Sb.into b
  have Sc := Sc.into b
  have S4 := S4.into b
  have S6 := S6.into b
  have S17 := S17.into b
  have S18 := S18.into b
  have S19 := S19.into b
  have S20 := S20.into b
  obtain ⟨p21, c21, rfl, S21, C21⟩ := own_shc o
  clear o b
  go_wp2_with fail
  refine Calls.mono (Er4 _ p18 p21 c18 c21 S18 S21) ?_
  rintro e w30 ⟨rfl, b⟩
  have bb30 := bthen bb29 b
  have Sa := Sa.into b
  have Sb := Sb.into b
  have Sc := Sc.into b
  have S4 := S4.into b
  have S6 := S6.into b
  have S17 := S17.into b
  have S19 := S19.into b
  have S20 := S20.into b
  clear b
  go_wp2_with fail
  refine Calls.mono (H21 _ pb pc cb cc Sb Sc Cb Cc) ?_
  rintro e w31 ⟨v, rfl, o, b⟩
  have bb31 := bthen bb30 b
  have Sa := Sa.into b
  have Sb := Sb.into b
  have Sc := Sc.into b
  have S4 := S4.into b
  have S6 := S6.into b
  have S17 := S17.into b
  have S19 := S19.into b
  have S20 := S20.into b
  obtain ⟨p22, c22, rfl, S22, C22⟩ := own_shc o
  clear o b
  go_wp2_with fail
  refine Calls.mono (H22 _ pa p22 ca c22 Sa S22 Ca C22) ?_
  rintro e w32 ⟨v, rfl, o, b⟩
  have bb32 := bthen bb31 b
  have Sa := Sa.into b
  have Sb := Sb.into b
  have Sc := Sc.into b
  have S4 := S4.into b
  have S6 := S6.into b
  have S17 := S17.into b
  have S19 := S19.into b
  have S20 := S20.into b
  obtain ⟨p23, c23, rfl, S23, C23⟩ := own_shc o
  clear o b
  go_wp2_with fail
  refine Calls.mono (H23 _ pa pb ca cb Sa Sb Ca Cb) ?_
  rintro e w33 ⟨v, rfl, o, b⟩
  have bb33 := bthen bb32 b
  have Sa := Sa.into b
  have Sb := Sb.into b
  have Sc := Sc.into b
  have S4 := S4.into b
  have S6 := S6.into b
  have S17 := S17.into b
  have S19 := S19.into b
  have S20 := S20.into b
  have S23 := S23.into b
  obtain ⟨p24, c24, rfl, S24, C24⟩ := own_shc o
  clear o b
  go_wp2_with fail
  refine Calls.mono (H24 _ pa pc ca cc Sa Sc Ca Cc) ?_
  rintro e w34 ⟨v, rfl, o, b⟩
  have bb34 := bthen bb33 b
  have Sa := Sa.into b
  have Sb := Sb.into b
  have Sc := Sc.into b
  have S4 := S4.into b
  have S6 := S6.into b
  have S17 := S17.into b
  have S19 := S19.into b
  have S20 := S20.into b
  have S23 := S23.into b
  have S24 := S24.into b
  obtain ⟨p25, c25, rfl, S25, C25⟩ := own_shc o
  clear o b
  go_wp2_with fail
  refine Calls.mono (H25 _ p24 p25 c24 c25 S24 S25 C24 C25) ?_
  rintro e w35 ⟨v, rfl, o, b⟩
  have bb35 := bthen bb34 b
  have Sa := Sa.into b
  have Sb := Sb.into b
  have Sc := Sc.into b
  have S4 := S4.into b
  have S6 := S6.into b
  have S17 := S17.into b
  have S19 := S19.into b
  have S20 := S20.into b
  have S23 := S23.into b
  obtain ⟨p26, c26, rfl, S26, C26⟩ := own_shc o
  clear o b
  go_wp2_with fail
  refine Calls.mono (Er5 _ p23 p26 c23 c26 S23 S26) ?_
  rintro e w36 ⟨rfl, b⟩
  have bb36 := bthen bb35 b
  have Sa := Sa.into b
  have Sb := Sb.into b
  have Sc := Sc.into b
  have S4 := S4.into b
  have S6 := S6.into b
  have S17 := S17.into b
  have S19 := S19.into b
  have S20 := S20.into b
  clear b
  go_wp2_with fail
  refine Calls.mono (H26 _ pb pc cb cc Sb Sc Cb Cc) ?_
  rintro e w37 ⟨v, rfl, o, b⟩
  have bb37 := bthen bb36 b
  have Sa := Sa.into b
  have Sb := Sb.into b
  have Sc := Sc.into b
  have S4 := S4.into b
  have S6 := S6.into b
  have S17 := S17.into b
  have S19 := S19.into b
  have S20 := S20.into b
  obtain ⟨p27, c27, rfl, S27, C27⟩ := own_shc o
  clear o b
  go_wp2_with fail
  refine Calls.mono (H27 _ pa p27 ca c27 Sa S27 Ca C27) ?_
  rintro e w38 ⟨v, rfl, o, b⟩
  have bb38 := bthen bb37 b
  have Sa := Sa.into b
  have Sb := Sb.into b
  have Sc := Sc.into b
  have S4 := S4.into b
  have S6 := S6.into b
  have S17 := S17.into b
  have S19 := S19.into b
  have S20 := S20.into b
  have S27 := S27.into b
  obtain ⟨p28, c28, rfl, S28, C28⟩ := own_shc o
  clear o b
  go_wp2_with fail
  refine Calls.mono (H28 _ pa pb ca cb Sa Sb Ca Cb) ?_
  rintro e w39 ⟨v, rfl, o, b⟩
  have bb39 := bthen bb38 b
  have Sa := Sa.into b
  have Sb := Sb.into b
  have Sc := Sc.into b
  have S4 := S4.into b
  have S6 := S6.into b
  have S17 := S17.into b
  have S19 := S19.into b
  have S20 := S20.into b
  have S27 := S27.into b
  have S28 := S28.into b
  obtain ⟨p29, c29, rfl, S29, C29⟩ := own_shc o
  clear o b
  go_wp2_with fail
  refine Calls.mono (H29 _ p29 pc c29 cc S29 Sc C29 Cc) ?_
  rintro e w40 ⟨v, rfl, o, b⟩
  have bb40 := bthen bb39 b
  have Sa := Sa.into b
  have Sb := Sb.into b
  have Sc := Sc.into b
  have S4 := S4.into b
  have S6 := S6.into b
  have S17 := S17.into b
  have S19 := S19.into b
  have S20 := S20.into b
  have S27 := S27.into b
  have S28 := S28.into b
  have S29 := S29.into b
  obtain ⟨p30, c30, rfl, S30, C30⟩ := own_shc o
  clear o b
  go_wp2_with fail
  refine Calls.mono (Er6 _ p28 p30 c28 c30 S28 S30) ?_
  rintro e w41 ⟨rfl, b⟩
  have bb41 := bthen bb40 b
  have Sa := Sa.into b
  have Sb := Sb.into b
  have Sc := Sc.into b
  have S4 := S4.into b
  have S6 := S6.into b
  have S17 := S17.into b
  have S19 := S19.into b
  have S20 := S20.into b
  have S27 := S27.into b
  have S29 := S29.into b
  clear b
  go_wp2_with fail
  refine Calls.mono (H30 _ pa pb ca cb Sa Sb Ca Cb) ?_
  rintro e w42 ⟨v, rfl, o, b⟩
  have bb42 := bthen bb41 b
  have Sa := Sa.into b
  have Sb := Sb.into b
  have Sc := Sc.into b
  have S4 := S4.into b
  have S6 := S6.into b
  have S17 := S17.into b
  have S19 := S19.into b
  have S20 := S20.into b
  have S27 := S27.into b
  have S29 := S29.into b
  obtain ⟨p31, c31, rfl, S31, C31⟩ := own_shc o
  clear o b
  go_wp2_with fail
  refine Calls.mono (H31 _ pa pb ca cb Sa Sb Ca Cb) ?_
  rintro e w43 ⟨v, rfl, o, b⟩
  have bb43 := bthen bb42 b
  have Sa := Sa.into b
  have Sb := Sb.into b
  have Sc := Sc.into b
  have S4 := S4.into b
  have S6 := S6.into b
  have S17 := S17.into b
  have S19 := S19.into b
  have S20 := S20.into b
  have S27 := S27.into b
  have S29 := S29.into b
  have S31 := S31.into b
  obtain ⟨p32, c32, rfl, S32, C32⟩ := own_shc o
  clear o b
  go_wp2_with fail
  refine Calls.mono (H32 _ p31 p32 c31 c32 S31 S32 C31 C32) ?_
  rintro e w44 ⟨v, rfl, o, b⟩
  have bb44 := bthen bb43 b
  have Sa := Sa.into b
  have Sb := Sb.into b
  have Sc := Sc.into b
  have S4 := S4.into b
  have S6 := S6.into b
  have S17 := S17.into b
  have S19 := S19.into b
  have S20 := S20.into b
  have S27 := S27.into b
  have S29 := S29.into b
  obtain ⟨p33, c33, rfl, S33, C33⟩ := own_shc o
  clear o b
  go_wp2_with fail
  refine Calls.mono (Hn _ pa ca Sa) ?_
  rintro e w45 ⟨v, rfl, o, b⟩
  have bb45 := bthen bb44 b
  have Sa := Sa.into b
  have Sb := Sb.into b
  have Sc := Sc.into b
  have S4 := S4.into b
  have S6 := S6.into b
  have S17 := S17.into b
  have S19 := S19.into b
  have S20 := S20.into b
  have S27 := S27.into b
  have S29 := S29.into b
  have S33 := S33.into b
  obtain ⟨p34, c34, rfl, S34, C34⟩ := own_shc o
  clear o b
  go_wp2_with fail
  refine Calls.mono (Ena _ p33 p34 c33 c34 S33 S34) ?_
  rintro e w46 ⟨rfl, b⟩
  have bb46 := bthen bb45 b
  have Sa := Sa.into b
  have Sb := Sb.into b
  have Sc := Sc.into b
  have S4 := S4.into b
  have S6 := S6.into b
  have S17 := S17.into b
  have S19 := S19.into b
  have S20 := S20.into b
  have S27 := S27.into b
  have S29 := S29.into b
  clear b
  go_wp2_with fail
  go_ret
  exact ⟨rfl, bb46⟩
end Go.Proofs.Ytjocgipjmcnjfaa
