/- TimecodeAscends -/
import Derived.Test.YtaffipbflghbiaaDoorTcRound
namespace Go.Proofs.YtaffipbflghbiaaDoor
open Go.RowKit

/-- The order of strings, on numbers. -/
def lexN : List Nat → List Nat → Bool
  | _, [] => false
  | [], _ :: _ => true
  | a :: x, b :: y => decide (a < b) || (a == b && lexN x y)
theorem lexN_same (c : Nat) (x y : List Nat) : lexN (c :: x) (c :: y) = lexN x y := by simp [lexN]
theorem lexN_two {a b : Nat} (ha : a < 100) (hb : b < 100) (x y : List Nat) : lexN (two a ++ x) (two b ++ y) = (decide (a < b) || (decide (a = b) && lexN x y)) := by
  simp only [two, List.cons_append, List.nil_append, lexN]
  rcases Nat.lt_trichotomy a b with h | h | h
  · rw [show decide (a < b) = true from decide_eq_true h, Bool.true_or]
    by_cases h1 : 48 + a / 10 < 48 + b / 10
    · simp [h1]
    · have h2 : 48 + a / 10 = 48 + b / 10 := by omega
      have h3 : 48 + a % 10 < 48 + b % 10 := by omega
      simp [h2, h3]
  · subst h; simp
  · have e1 : decide (a < b) = false := decide_eq_false (by omega)
    have e2 : decide (a = b) = false := decide_eq_false (by omega)
    rw [e1, e2, Bool.false_and, Bool.or_false]
    by_cases h1 : 48 + a / 10 = 48 + b / 10
    · have h3 : ¬ 48 + a % 10 < 48 + b % 10 := by omega
      have h4 : ¬ 48 + a % 10 = 48 + b % 10 := by omega
      simp [h1, h3, h4]
      omega
    · have h3 : ¬ 48 + a / 10 < 48 + b / 10 := by omega
      simp [h1, h3]
      omega
theorem lexN_txt {p h m s f h' m' s' f' : Nat} (a1 : h < 100) (a2 : m < 100) (a3 : s < 100) (a4 : f < 100) (b1 : h' < 100) (b2 : m' < 100) (b3 : s' < 100) (b4 : f' < 100) :
    lexN (txtL p h m s f) (txtL p h' m' s' f') = true ↔ (h < h' ∨ (h = h' ∧ (m < m' ∨ (m = m' ∧ (s < s' ∨ (s = s' ∧ f < f')))))) := by
  have e : ∀ h m s f : Nat, txtL p h m s f = two h ++ (58 :: (two m ++ (58 :: (two s ++ (p :: (two f ++ [])))))) := fun h m s f => by simp [txtL]
  rw [e, e, lexN_two a1 b1, lexN_same, lexN_two a2 b2, lexN_same, lexN_two a3 b3, lexN_same, lexN_two a4 b4]
  simp [lexN]
theorem count_mono {x : Rt} (h : x ∈ rtL) {i j : Nat} (hj : j < x.day) (hij : i < j) : countZ x i < countZ x j := by
  unfold countZ
  obtain ⟨k, hk⟩ : ∃ k, startedZ x i = k := ⟨_, rfl⟩
  obtain ⟨l, hl⟩ : ∃ l, startedZ x j = l := ⟨_, rfl⟩
  rw [hk, hl]
  unfold startedZ at hk hl
  have hkl : k ≤ l := by
    by_cases h1 : i % x.ten < x.minute
    · rw [if_pos h1] at hk
      by_cases h2 : j % x.ten < x.minute
      · rw [if_pos h2] at hl
        rcases rt_cases h with rfl | rfl | rfl | rfl | rfl | rfl | rfl | rfl <;> simp only [Rt.ten, Rt.minute, Rt.day, Nat.reduceMul, Nat.reduceSub] at * <;> omega
      · rw [if_neg h2] at hl
        rcases rt_cases h with rfl | rfl | rfl | rfl | rfl | rfl | rfl | rfl <;> simp only [Rt.ten, Rt.minute, Rt.day, Nat.reduceMul, Nat.reduceSub] at * <;> omega
    · rw [if_neg h1] at hk
      by_cases h2 : j % x.ten < x.minute
      · rw [if_pos h2] at hl
        rcases rt_cases h with rfl | rfl | rfl | rfl | rfl | rfl | rfl | rfl <;> simp only [Rt.ten, Rt.minute, Rt.day, Nat.reduceMul, Nat.reduceSub] at * <;> omega
      · rw [if_neg h2] at hl
        rcases rt_cases h with rfl | rfl | rfl | rfl | rfl | rfl | rfl | rfl <;> simp only [Rt.ten, Rt.minute, Rt.day, Nat.reduceMul, Nat.reduceSub] at * <;> omega
  have hd : droppedZ x k ≤ droppedZ x l := by unfold droppedZ; exact Nat.mul_le_mul_left _ (by omega)
  omega
theorem lex_fmt {x : Rt} (hx : x ∈ rtL) {i j : Nat} (hi : i < x.day) (hj : j < x.day) : lexN (fmtL x i) (fmtL x j) = decide (i < j) := by
  have key : ∀ c c' : Nat, c < 86400 * x.base → c' < 86400 * x.base → (lexN (txtL x.sep (c / x.base / 3600) (c / x.base / 60 % 60) (c / x.base % 60) (c % x.base)) (txtL x.sep (c' / x.base / 3600) (c' / x.base / 60 % 60) (c' / x.base % 60) (c' % x.base)) = true ↔ c < c') := by
    intro c c' hc hc'
    generalize x.sep = p
    rcases rt_cases hx with rfl | rfl | rfl | rfl | rfl | rfl | rfl | rfl <;> simp only [Nat.reduceMul] at * <;> rw [lexN_txt (by omega) (by omega) (by omega) (by omega) (by omega) (by omega) (by omega) (by omega)] <;> omega
  have h1 := key (countZ x i) (countZ x j) (count_in hx hi).1 (count_in hx hj).1
  have h2 : countZ x i < countZ x j ↔ i < j := by
    constructor
    · intro h
      rcases Nat.lt_trichotomy i j with h3 | h3 | h3
      · exact h3
      · subst h3; omega
      · have := count_mono hx hi h3; omega
    · exact fun h => count_mono hx hj h
  rw [h2] at h1
  unfold fmtL
  by_cases h : i < j
  · rw [decide_eq_true h]; exact h1.2 h
  · rw [decide_eq_false h]; exact Bool.eq_false_iff.2 fun h3 => h (h1.1 h3)

theorem bytes_lex : ∀ (l m : List Nat), (∀ a ∈ l, a < 256) → (∀ a ∈ m, a < 256) → Op.bytesLess (l.map fun n => UInt8.ofNat n) (m.map fun n => UInt8.ofNat n) = lexN l m
  | [], [], _, _ => rfl
  | [], _ :: _, _, _ => rfl
  | _ :: _, [], _, _ => rfl
  | a :: l, b :: m, h1, h2 => by
    have ha := h1 a (by simp)
    have hb := h2 b (by simp)
    have ih := bytes_lex l m (fun x hx => h1 x (by simp [hx])) (fun x hx => h2 x (by simp [hx]))
    simp only [List.map_cons, Op.bytesLess, lexN, ih]
    have e1 : decide (UInt8.ofNat a < UInt8.ofNat b) = decide (a < b) := by
      refine decide_eq_decide.2 ?_
      rw [UInt8.lt_iff_toNat_lt, UInt8.toNat_ofNat', UInt8.toNat_ofNat', Nat.mod_eq_of_lt (by omega), Nat.mod_eq_of_lt (by omega)]
    have e2 : (UInt8.ofNat a == UInt8.ofNat b) = (a == b) := by
      rw [Bool.eq_iff_iff, beq_iff_eq, beq_iff_eq]
      constructor
      · intro h
        have := congrArg UInt8.toNat h
        rw [UInt8.toNat_ofNat', UInt8.toNat_ofNat', Nat.mod_eq_of_lt (by omega), Nat.mod_eq_of_lt (by omega)] at this
        exact this
      · intro h; rw [h]
    rw [e1, e2]
theorem strN_list (l : List Nat) : (strN l).toList = l.map fun n => UInt8.ofNat n := by
  rw [ByteArray.toList_eq]
  show (l.map fun x : Nat => (x : Int)).map (fun n => UInt8.ofNat n.toNat) = _
  rw [List.map_map]
  rfl
theorem less_fmt {x : Rt} (hx : x ∈ rtL) {i j : Nat} (hi : i < x.day) (hj : j < x.day) : Op.bytesLess (strN (fmtL x i)).toList (strN (fmtL x j)).toList = decide (i < j) := by
  rw [strN_list, strN_list, bytes_lex _ _ (fmtL_lt hx hi) (fmtL_lt hx hj), lex_fmt hx hi hj]

set_option maxRecDepth 100000 in
set_option maxHeartbeats 2000000 in
theorem ascends_law (c n m : Int) (w : World) (c1 : -9223372036854775808 ≤ c) (c2 : c ≤ 9223372036854775807) (n1 : -9223372036854775808 ≤ n) (n2 : n ≤ 9223372036854775807) (m1 : -9223372036854775808 ≤ m) (m2 : m ≤ 9223372036854775807) (hF : FmtAt w) :
    Calls Tryd.prog 6 #[.int .i64 c, .int .i64 n, .int .i64 m] w fun e w' => e = .returned (.bool true) ∧ Below w.heap.size w w' := by
  have HF := fun W (hb : Below w.heap.size w W) => hF.below hb
  obtain ⟨i, x, hi8, hxi, hx, -, hrate⟩ := law_rate c c1 c2
  obtain ⟨-, -, -, -, x5, x6, x7⟩ := rt_bd hx
  obtain ⟨y1, y2⟩ := day_pos hx
  have hD : x.day + 1296 * x.drop = 86400 * x.base := by unfold Rt.day; omega
  have hday := fun W => refDay_any x.num x.den x.base x.drop x.day W x6 (by omega) x7 hD
  have hfind := fun W => refFind_ok i hi8 W
  rw [← hxi] at hfind
  obtain ⟨k, hk, hpk⟩ := law_pick n x.day n1 n2 (by omega) (by omega)
  obtain ⟨j, hj, hpj⟩ := law_pick m 5000 m1 m2 (by decide) (by decide)
  have hkD : k < x.day := by omega
  have hFa := fun W (hb : Below w.heap.size w W) => format_ok x hx k (by omega) W (HF W hb)
  have hFb := fun W (hb : Below w.heap.size w W) => format_ok x hx (k + j) (by omega) W (HF W hb)
  have hFc := fun W (hb : Below w.heap.size w W) => format_ok x hx (k + x.day) (by omega) W (HF W hb)
  rw [Nat.mod_eq_of_lt hkD] at hFa
  rw [Nat.add_mod_right, Nat.mod_eq_of_lt hkD] at hFc
  have hless : k + j < x.day → Op.bytesLess (strN (fmtL x k)).toList (strN (fmtL x ((k + j) % x.day))).toList = decide (k < k + j) := fun h => by
    rw [Nat.mod_eq_of_lt h]; exact less_fmt hx hkD h
  obtain ⟨s, hs⟩ : ∃ s, strN (fmtL x k) = s := ⟨_, rfl⟩
  obtain ⟨t, ht⟩ : ∃ t, strN (fmtL x ((k + j) % x.day)) = t := ⟨_, rfl⟩
  rw [hs] at hFa hFc hless
  rw [ht] at hFb hless
  obtain ⟨b, hbe⟩ : ∃ b, k + j = b := ⟨_, rfl⟩
  obtain ⟨cc, hce⟩ : ∃ cc, k + x.day = cc := ⟨_, rfl⟩
  rw [hbe] at hFb hless
  rw [hce] at hFc
  have e1 : IntKind.i64.wrap ((k : Int) + (j : Int)) = (b : Int) := by rw [w64 (by omega) (by omega)]; omega
  have e2 : IntKind.i64.wrap ((k : Int) + (x.day : Int)) = (cc : Int) := by rw [w64 (by omega) (by omega)]; omega
  have HL := Lib.hid hless
  have hbk : k ≤ b := by omega
  clear hless hs ht hbe hce hxi hx hD y1
  unfold Rt.val Rt.row at *
  generalize x.day = D at *
  generalize x.num = a at *
  generalize x.den = bb at *
  generalize x.base = cb at *
  generalize x.drop = cd at *
  clear x
  go_enter Tryd.func6, Tryd.ntmps6
  go_wp2_with fail
  refine Calls.mono (sane_any _ hF) ?_; rintro e w1 ⟨rfl, g1⟩
  go_wp2_with fail
  refine Calls.mono (hrate _) ?_; rintro e w2 ⟨rfl, g2⟩
  have hb2 := bthen g1 g2
  obtain ⟨w3, hW3, hb3, hsz3, k0, k1⟩ := box2 w2 a bb
  have hb3' := bthen hb2 hb3
  go_wp2_with fail
  clear hW3
  obtain ⟨T, hT⟩ : ∃ T, w2.heap.size = T := ⟨_, rfl⟩
  rw [hT] at k0 k1 hsz3 ⊢
  clear hT
  refine Calls.mono (hfind _) ?_; rintro e w4 ⟨rfl, g4⟩
  have hb4 := bthen hb3' g4
  obtain ⟨k0, k1⟩ := keep2 k0 k1 g4 (by omega)
  have hsz4 : T < w4.heap.size := by have := g4.size; omega
  obtain ⟨w5, hW5, hb5, hsz5, l0, l1, l2, l3⟩ := box4r w4 a bb cb cd
  obtain ⟨k0, k1⟩ := keep2 k0 k1 hb5 hsz4
  have hb5' := bthen hb4 hb5
  have hsz5' : T < w5.heap.size := by omega
  go_wp2_with fail
  clear hW5
  refine Calls.mono (hday _) ?_; rintro e w5b ⟨rfl, g5⟩
  have hb5b := bthen hb5' g5
  obtain ⟨k0, k1⟩ := keep2 k0 k1 g5 hsz5'
  have hsz5b : T < w5b.heap.size := by have := g5.size; omega
  go_wp2_with (first | (go_at_call 14; with_reducible refine Calls.mono (hpk _) ?_; rintro e w3 ⟨rfl, rfl⟩) | (go_at_call 14; with_reducible refine Calls.mono (hpj _) ?_; rintro e w3 ⟨rfl, rfl⟩) | fail)
  refine Calls.mono (hFa _ hb5b) ?_; rintro e w6 ⟨rfl, g6⟩
  have hb6 := bthen hb5b g6
  obtain ⟨k0, k1⟩ := keep2 k0 k1 g6 hsz5b
  have hsz6 : T < w6.heap.size := by have := g6.size; omega
  go_wp2_with fail
  refine Calls.mono (hFb _ hb6) ?_; rintro e w7 ⟨rfl, g7⟩
  have hb7 := bthen hb6 g7
  obtain ⟨k0, k1⟩ := keep2 k0 k1 g7 hsz6
  have hsz7 : T < w7.heap.size := by have := g7.size; omega
  go_wp2_with fail
  refine Calls.mono (hFc _ hb7) ?_; rintro e w8 ⟨rfl, g8⟩
  have hb8 := bthen hb7 g8
  by_cases hbD : D ≤ b
  · have f1 : decide (D ≤ b) = true := decide_eq_true hbD
    have f1' : decide ((D : Int) ≤ (b : Int)) = true := decide_eq_true (by omega)
    clear hbk
    go_wp2
    go_ret
    exact ⟨rfl, hb8⟩
  · have f1 : decide (D ≤ b) = false := decide_eq_false hbD
    have f1' : decide ((D : Int) ≤ (b : Int)) = false := decide_eq_false (by omega)
    have hl := HL.out (by omega)
    by_cases hkb : k < b
    · have f2 : decide (k < b) = true := decide_eq_true hkb
      have f2' : decide ((k : Int) < (b : Int)) = true := decide_eq_true (by omega)
      rw [f2] at hl
      clear hbk HL
      go_wp2
      go_ret
      exact ⟨rfl, hb8⟩
    · have f2 : decide (k < b) = false := decide_eq_false hkb
      have f2' : decide ((k : Int) < (b : Int)) = false := decide_eq_false (by omega)
      rw [f2] at hl
      clear hbk HL
      go_wp2
      go_ret
      exact ⟨rfl, hb8⟩
end Go.Proofs.YtaffipbflghbiaaDoor
