/- SpanTotal. -/
import Derived.Test.YtjocgipjmcnjfaaSpSmall
import Derived.Test.YtjocgipjmcnjfaaSpSane
namespace Go.Proofs.Ytjocgipjmcnjfaa
open Go.RowKit Go.Shelf

def cntP (p : Int → Bool) : Nat → Nat
  | 0 => 0
  | n + 1 => cntP p n + if p (-50 + n) then 1 else 0
theorem cnt_in (s : Int × Int) (h : -50 ≤ s.1) : ∀ n : Nat, (cntP (inS s) n : Int) = max 0 (min s.2 (-50 + n) - s.1)
  | 0 => by show (0 : Int) = _; omega
  | n + 1 => by
    have ih := cnt_in s h n
    show ((cntP (inS s) n + if inS s (-50 + n) then 1 else 0 : Nat) : Int) = _
    by_cases hi : inS s (-50 + n) = true
    · rw [if_pos hi]
      have := inS_iff.1 hi
      omega
    · rw [if_neg hi]
      have : ¬ (s.1 ≤ -50 + n ∧ -50 + n < s.2) := fun h => hi (inS_iff.2 h)
      omega
theorem cnt_or (p q : Int → Bool) : ∀ n : Nat, cntP (fun x => p x || q x) n + cntP (fun x => p x && q x) n = cntP p n + cntP q n
  | 0 => rfl
  | n + 1 => by
    have ih := cnt_or p q n
    simp only [cntP]
    by_cases h1 : p (-50 + (n : Int)) = true <;> by_cases h2 : q (-50 + (n : Int)) = true <;> simp [h1, h2] <;> omega
theorem cnt_no : ∀ n : Nat, cntP (fun _ => false) n = 0
  | 0 => rfl
  | n + 1 => by simp [cntP, cnt_no n]
theorem cnt_congr {p q : Int → Bool} (h : ∀ x, p x = q x) (n : Nat) : cntP p n = cntP q n := by rw [show p = q from funext h]
theorem sum_cnt : ∀ M : List (Int × Int), Asc M → (∀ s ∈ M, -50 ≤ s.1 ∧ s.2 ≤ 51) → sumZ M = (cntP (hasZ M) 101 : Int)
  | [], _, _ => by
    rw [cnt_congr (p := hasZ []) (q := fun _ => false) (fun x => rfl), cnt_no]; rfl
  | s :: r, h, hb => by
    obtain ⟨h1, h2, h3⟩ := asc_cons.1 h
    have ih := sum_cnt r h3 (fun t ht => hb t (List.mem_cons_of_mem _ ht))
    have hs := hb s (List.mem_cons_self ..)
    have e : sumZ (s :: r) = s.2 - s.1 + sumZ r := by simp [sumZ]
    have hor := cnt_or (inS s) (hasZ r) 101
    have hno : cntP (fun x => inS s x && hasZ r x) 101 = 0 := by
      rw [cnt_congr (q := fun _ => false), cnt_no]
      intro x
      cases hi : inS s x with
      | false => rfl
      | true =>
        rw [Bool.true_and]
        refine hasZ_no.2 fun t ht => ?_
        have := inS_iff.1 hi
        have := h2 t ht
        omega
    have hc : cntP (hasZ (s :: r)) 101 = cntP (fun x => inS s x || hasZ r x) 101 := cnt_congr (fun x => hasZ_cons s r x) 101
    have hin := cnt_in s hs.1 101
    rw [hc, e, ih]
    omega
theorem cnt_le (p : Int → Bool) : ∀ n, cntP p n ≤ n
  | 0 => Nat.le_refl _
  | n + 1 => by have := cnt_le p n; simp only [cntP]; split <;> omega
theorem tot_cnt {l : List (Int × Int)} (h : ∀ x, hasZ l x = true → -50 ≤ x ∧ x ≤ 50) : totZ l = (cntP (hasZ l) 101 : Int) := by
  have hM : ∀ s ∈ nrmZ l, -50 ≤ s.1 ∧ s.2 ≤ 51 := fun s hs => by
    have h1 := (nrmZ_asc l).1 s hs
    have h2 := h s.1 (by rw [← nrmZ_has]; exact hasZ_iff.2 ⟨s, hs, by omega, by omega⟩)
    have h3 := h (s.2 - 1) (by rw [← nrmZ_has]; exact hasZ_iff.2 ⟨s, hs, by omega, by omega⟩)
    omega
  have h1 := sum_cnt (nrmZ l) (nrmZ_asc l) hM
  have h2 := cnt_congr (fun x => nrmZ_has l x) 101
  have h3 := cnt_le (hasZ l) 101
  unfold totZ
  rw [h1, h2]
  omega
theorem tot_both {a b : List (Int × Int)} (ha : Sm a) (hb : Sm b) : totZ (uniZ a b) + totZ (intZ a b) = totZ a + totZ b := by
  rw [tot_cnt (l := a) (fun x hx => by have := ha.has hx; omega), tot_cnt (l := b) (fun x hx => by have := hb.has hx; omega),
    tot_cnt (l := uniZ a b) (fun x hx => by
      rw [uniZ_has, Bool.or_eq_true] at hx
      rcases hx with hx | hx
      · have := ha.has hx; omega
      · have := hb.has hx; omega),
    tot_cnt (l := intZ a b) (fun x hx => by rw [intZ_has, Bool.and_eq_true] at hx; have := ha.has hx.1; omega),
    cnt_congr (uniZ_has a b), cnt_congr (intZ_has a b)]
  have := cnt_or (hasZ a) (hasZ b) 101
  omega

set_option maxRecDepth 100000 in
set_option maxHeartbeats 8000000 in
theorem total_law (pa : Option Addr) (ca : Nat) (a : List (Int × Int)) (la : a.length ≤ 9223372036854775807) (pb : Option Addr) (cb : Nat) (b : List (Int × Int)) (lb : b.length ≤ 9223372036854775807) (w : World) (Sa : ShAt w w.heap.size pa a) (Ba : Bd a) (Sb : ShAt w w.heap.size pb b) (Bb : Bd b) :
    Calls Try.prog 10 #[.slice pa a.length ca, .slice pb b.length cb] w fun e w' => e = .returned (.bool true) ∧ Below w.heap.size w w' := by
  have Fa := fun W (h : ShAt W W.heap.size pa a) => small_any pa ca a W h la Ba
  have Ma := smallZ_sm a
  have Na := smallZ_len a
  generalize smallZ a = La at Fa Ma Na
  have Da := Ma.bd
  obtain ⟨na, hna⟩ : ∃ n, a.length = n := ⟨_, rfl⟩
  rw [hna] at Fa ⊢
  clear hna la
  have Fb := fun W (h : ShAt W W.heap.size pb b) => small_any pb cb b W h lb Bb
  have Mb := smallZ_sm b
  have Nb := smallZ_len b
  generalize smallZ b = Lb at Fb Mb Nb
  have Db := Mb.bd
  obtain ⟨nb, hnb⟩ : ∃ n, b.length = n := ⟨_, rfl⟩
  rw [hnb] at Fb ⊢
  clear hnb lb
  have hboth := tot_both Ma Mb
  have hta := tot_cnt (l := La) (fun x hx => by have := Ma.has hx; omega)
  have htb := tot_cnt (l := Lb) (fun x hx => by have := Mb.has hx; omega)
  have hca := cnt_le (hasZ La) 101
  have hcb := cnt_le (hasZ Lb) 101
  obtain ⟨ru, eu⟩ : ∃ r, uniZ La Lb = r := ⟨_, rfl⟩
  have Bu : Bd ru := eu ▸ Bd.uni Da Db
  have Nu : ru.length ≤ 48 := by have h := uni_len Da Db; rw [eu] at h; omega
  have Hu := op_uni (a := La) (b := Lb) eu (by omega) (by omega) Da Db
  obtain ⟨ri, ei⟩ : ∃ r, intZ La Lb = r := ⟨_, rfl⟩
  have Bi : Bd ri := ei ▸ Bd.int Da
  have Ni : ri.length ≤ 48 := by have h := int_len Da Db; rw [ei] at h; omega
  have Hi := op_int (a := La) (b := Lb) ei (by omega) (by omega) Da Db
  rw [eu, ei] at hboth
  have Ta := fun W p c (h : ShAt W W.heap.size p La) => total_any p c La W h (by omega) Da
  have Tb := fun W p c (h : ShAt W W.heap.size p Lb) => total_any p c Lb W h (by omega) Db
  have Tu := fun W p c (h : ShAt W W.heap.size p ru) => total_any p c ru W h (by omega) Bu
  have Ti := fun W p c (h : ShAt W W.heap.size p ri) => total_any p c ri W h (by omega) Bi
  have hu0 : 0 ≤ totZ ru ∧ 0 ≤ totZ ri := by
    have h1 := sumZ_le (nrmZ ru) (-9223372036854775808) 9223372036854775807 (nrmZ_asc ru) (by omega) (fun s hs => by have := Bu.nrm s hs; omega)
    have h2 := sumZ_le (nrmZ ri) (-9223372036854775808) 9223372036854775807 (nrmZ_asc ri) (by omega) (fun s hs => by have := Bi.nrm s hs; omega)
    unfold totZ; omega
  obtain ⟨hu0, hi0⟩ := hu0
  generalize totZ ru = tu at Tu hboth hu0
  generalize totZ ri = ti at Ti hboth hi0
  have hH := fun W p c x (h : ShAt W W.heap.size p La) => has_any p c La x W h (by omega)
  have HTa := Lib.hid hta
  have HCL := Lib.hid hca
  obtain ⟨ta, hta2⟩ : ∃ t, totZ La = t := ⟨_, rfl⟩
  obtain ⟨tb, htb2⟩ : ∃ t, totZ Lb = t := ⟨_, rfl⟩
  rw [hta2] at Ta hboth hta
  rw [htb2] at Tb hboth htb
  have ta0 : 0 ≤ ta := by omega
  have ta1 : ta ≤ 101 := by omega
  have tb0 : 0 ≤ tb := by omega
  have tb1 : tb ≤ 101 := by omega
  have HTA := Lib.hid hta
  have hw1 : IntKind.i64.wrap (tu + ti) = ta + tb := by rw [hboth]; exact w64 (by omega) (by omega)
  have hw2 : IntKind.i64.wrap (ta + tb) = ta + tb := w64 (by omega) (by omega)
  clear eu ei hboth hta htb hca hcb hta2 htb2 HTa hu0 hi0 Bu Bi
  have bb0 := Below.refl w.heap.size w
  go_enter Try.func10, Try.ntmps10
  go_wp2_with fail
  refine Calls.mono (sane_any _) ?_
  rintro e w1 ⟨rfl, b⟩
  have bb1 := bthen bb0 b
  have Sa := Sa.into b
  have Sb := Sb.into b
  clear b
  go_wp2_with fail
  refine Calls.mono (Fa _ Sa) ?_
  rintro e w2 ⟨v, rfl, o, b⟩
  have bb2 := bthen bb1 b
  have Sb := Sb.into b
  obtain ⟨pA, cA, rfl, SA, CA⟩ := own_shc o
  clear o b
  go_wp2_with fail
  refine Calls.mono (Fb _ Sb) ?_
  rintro e w3 ⟨v, rfl, o, b⟩
  have bb3 := bthen bb2 b
  have SA := SA.into b
  obtain ⟨pB, cB, rfl, SB, CB⟩ := own_shc o
  clear o b Sa Sb Fa Fb
  go_wp2_with fail
  go_loopw [8, 9] (fun s8 s9 wr => ∃ k : Nat, s8 = .int .i64 (cntP (hasZ La) k : Int) ∧ s9 = .int .i64 (-50 + (k : Int)) ∧ k ≤ 101 ∧ Below w3.heap.size w3 wr) (fun _ s9 _ => (51 - intOf s9).toNat)
  case atStart => exact ⟨0, rfl, rfl, by omega, Below.refl _ _⟩
  case round =>
    obtain ⟨k, rfl, rfl, hk, hb⟩ := hrel
    by_cases hlt : k < 101
    · have hcall := hH wr pA cA (-50 + (k : Int)) (SA.into hb)
      have hcs : cntP (hasZ La) (k + 1) = cntP (hasZ La) k + if hasZ La (-50 + (k : Int)) then 1 else 0 := rfl
      have hck := cnt_le (hasZ La) k
      obtain ⟨r, hr⟩ : ∃ r, hasZ La (-50 + (k : Int)) = r := ⟨_, rfl⟩
      rw [hr] at hcall hcs
      obtain ⟨n, hn⟩ : ∃ n, cntP (hasZ La) k = n := ⟨_, rfl⟩
      rw [hn] at hcs hck ⊢
      have HCS := Lib.hid hcs
      have d1 : decide (-50 + (k : Int) ≤ 50) = true := by simp; omega
      have d1' : -50 + (k : Int) ≤ 50 := by omega
      have wk : IntKind.i64.wrap (-50 + (k : Int) + 1) = -50 + (k : Int) + 1 := w64 (by omega) (by omega)
      have wn : IntKind.i64.wrap ((n : Int) + 1) = (n : Int) + 1 := w64 (by omega) (by omega)
      have hsz := hb.size
      clear hcs hr hn
      cases r with
      | true =>
        go_wp2_with fail
        refine hcall.mono ?_
        rintro e w9 ⟨rfl, b9⟩
        go_wp2_with fail
        exact ⟨⟨k + 1, by rw [HCS.out]; go_num, by go_num, by omega, hb.trans (b9.mono hsz)⟩, by simp [intOf]; omega⟩
      | false =>
        go_wp2_with fail
        refine hcall.mono ?_
        rintro e w9 ⟨rfl, b9⟩
        go_wp2_with fail
        exact ⟨⟨k + 1, by rw [HCS.out]; rfl, by go_num, by omega, hb.trans (b9.mono hsz)⟩, by simp [intOf]; omega⟩
    · obtain rfl : k = 101 := by omega
      rw [← HTA.out]
      have SA := SA.into hb
      have SB := SB.into hb
      have bb4 := bthen bb3 hb
      clear hH HCL
      obtain ⟨w4, rfl⟩ : ∃ W, W = wr := ⟨_, rfl⟩
      go_wp2_with fail
      refine Calls.mono (Ta _ pA cA SA) ?_
      rintro e w5 ⟨rfl, b⟩
      have bb5 := bthen bb4 b
      have SA := SA.into b
      have SB := SB.into b
      clear b
      go_wp2_with fail
      refine Calls.mono (Hu _ pA pB cA cB SA SB CA CB) ?_
      rintro e w6 ⟨v, rfl, o, b⟩
      have bb6 := bthen bb5 b
      have SA := SA.into b
      have SB := SB.into b
      obtain ⟨p0, c0, rfl, S0, C0⟩ := own_shc o
      clear o b
      go_wp2_with fail
      refine Calls.mono (Tu _ p0 c0 S0) ?_
      rintro e w7 ⟨rfl, b⟩
      have bb7 := bthen bb6 b
      have SA := SA.into b
      have SB := SB.into b
      clear b
      go_wp2_with fail
      refine Calls.mono (Hi _ pA pB cA cB SA SB CA CB) ?_
      rintro e w8 ⟨v, rfl, o, b⟩
      have bb8 := bthen bb7 b
      have SA := SA.into b
      have SB := SB.into b
      obtain ⟨p1, c1, rfl, S1, C1⟩ := own_shc o
      clear o b
      go_wp2_with fail
      refine Calls.mono (Ti _ p1 c1 S1) ?_
      rintro e w9 ⟨rfl, b⟩
      have bb9 := bthen bb8 b
      have SA := SA.into b
      have SB := SB.into b
      clear b
      go_wp2_with fail
      refine Calls.mono (Ta _ pA cA SA) ?_
      rintro e w10 ⟨rfl, b⟩
      have bb10 := bthen bb9 b
      have SA := SA.into b
      have SB := SB.into b
      clear b
      go_wp2_with fail
      refine Calls.mono (Tb _ pB cB SB) ?_
      rintro e w11 ⟨rfl, b⟩
      have bb11 := bthen bb10 b
      have SA := SA.into b
      have SB := SB.into b
      clear b
      go_wp2_with fail
      go_ret
      exact ⟨by simp, bb11⟩
end Go.Proofs.Ytjocgipjmcnjfaa
