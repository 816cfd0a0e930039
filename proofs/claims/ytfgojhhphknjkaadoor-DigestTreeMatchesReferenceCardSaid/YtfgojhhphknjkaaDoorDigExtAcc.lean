/- DigestExtensionAccepted: the walk. -/
import Derived.Test.YtfgojhhphknjkaaDoorDigLaw
import Derived.Test.YtfgojhhphknjkaaDoorDigAcc
namespace Go.Proofs.YtfgojhhphknjkaaDoor
open Go.RowKit

/-- How many binary digits. -/
def binN (n : Nat) : Nat := if h : n = 0 then 0 else binN (n / 2) + 1
termination_by n
decreasing_by omega
theorem binN_zero : binN 0 = 0 := by rw [binN]; simp
theorem binN_pos {n : Nat} (h : n ≠ 0) : binN n = binN (n / 2) + 1 := by rw [binN]; simp [h]
theorem binN_lt : ∀ (N n : Nat), n ≤ N → n < 2 ^ binN n ∧ binN n ≤ n
  | 0, n, h => by
    obtain rfl : n = 0 := by omega
    rw [binN_zero]; decide
  | N + 1, n, h => by
    by_cases h0 : n = 0
    · subst h0; rw [binN_zero]; decide
    · have ih := binN_lt N (n / 2) (by omega)
      rw [binN_pos h0, Nat.pow_succ]
      omega

set_option maxHeartbeats 1000000 in
theorem binary_any (n : Nat) (hn : n ≤ 1000) (w : World) :
    Calls Tryd.prog 19 #[.int .i64 (n : Int)] w fun e w' => e = .returned (.int .i64 (binN n : Nat)) ∧ w = w' := by
  go_enter Tryd.func19, Tryd.ntmps19
  go_wp2
  go_loop [0, 3] (fun r k => ∃ R K : Nat, r = .int .i64 R ∧ k = .int .i64 K ∧ K + binN R = binN n ∧ R ≤ 1000 ∧ K ≤ 1000) (fun r _ => (intOf r).toNat)
  case atStart => exact ⟨n, 0, rfl, rfl, by omega, hn, by omega⟩
  case round =>
    obtain ⟨R, K, rfl, rfl, hK, hR, hK2⟩ := hrel
    have hbn := (binN_lt n n (Nat.le_refl _)).2
    by_cases h0 : R = 0
    · subst h0
      rw [binN_zero, Nat.add_zero] at hK
      go_wp2
      go_ret
      exact ⟨ret_int (by omega), rfl⟩
    · have hst := binN_pos h0
      have hpos : decide ((0 : Int) < (R : Int)) = true := decide_eq_true (by omega)
      have hpos' : 0 < R := by omega
      go_wp2
      go_round
      case rel => exact ⟨R / 2, K + 1, by go_num, by go_num, by omega, by omega, by omega⟩
      case measure => simp [intOf]; omega

theorem allDig_of {l : List ByteArray} (h : ∀ x ∈ l, x.size = 32) : allDig l = true := by
  unfold allDig
  rw [List.all_eq_true]
  intro x hx
  rw [h x hx]; rfl

theorem verify_part {l : List ByteArray} {m : Nat} (h1 : 1 ≤ m) (h2 : m ≤ l.length) (h3 : l.length ≤ 900) : verifyExtZ (rootZ (l.take m)) m (rootZ l) l.length (partZ l m true) = true := by
  unfold verifyExtZ
  rw [rootZ_size, rootZ_size, allDig_of (part_size l.length l m true (Nat.le_refl _))]
  have d1 : decide ((0 : Int) ≤ (m : Int)) = true := decide_eq_true (by omega)
  have d2 : decide ((m : Int) ≤ (l.length : Int)) = true := decide_eq_true (by omega)
  rw [d1, d2, if_neg (by omega)]
  by_cases hm : m = l.length
  · rw [if_pos (by omega), partZ_all hm, hm, List.take_length]
    simp [strEq_refl]
  · rw [if_neg (by omega)]
    have hp := part_accept l.length l m true (rootZ (l.take m)) (Nat.le_refl _) h1 h2 (by omega) (fun _ => rfl)
    rw [show (m : Int).toNat = m from rfl, show (l.length : Int).toNat = l.length from rfl, hp]
    simp [strEq_refl]
theorem verify_zero {l : List ByteArray} (h3 : l.length ≤ 900) : verifyExtZ (rootZ []) 0 (rootZ l) l.length [] = true := by
  unfold verifyExtZ
  rw [rootZ_size, rootZ_size, rootZ_nil]
  have d2 : decide ((0 : Int) ≤ (l.length : Int)) = true := decide_eq_true (by omega)
  rw [d2]
  simp [strEq_refl, allDig]
theorem verify_outside {old r : ByteArray} {m n : Int} {p : List ByteArray} (h : m < 0 ∨ n < m) : verifyExtZ old m r n p = false := by
  unfold verifyExtZ
  rcases h with h | h
  · rw [show decide (0 ≤ m) = false from decide_eq_false (by omega)]; rfl
  · rw [show decide (m ≤ n) = false from decide_eq_false (by omega), Bool.and_false]; rfl
theorem part_short2 {l : List ByteArray} {m : Nat} (h1 : 1 ≤ m) (h2 : m ≤ l.length) (h3 : l.length ≤ 900) : (partZ l m true).length ≤ 2 * binN l.length := by
  have hb := (binN_lt l.length l.length (Nat.le_refl _)).1
  have := part_short (binN l.length) l m true (by omega) h1 h2 (by omega)
  have hp : 1 ≤ binN l.length := by rw [binN_pos (by omega)]; omega
  omega

set_option maxRecDepth 100000 in
set_option maxHeartbeats 2000000 in
theorem extacc_law (ss : List ByteArray) (m : Int) (p : Option Addr) (cap : Nat) (w : World) (hm1 : -9223372036854775808 ≤ m) (hm2 : m ≤ 9223372036854775807) (hl : ss.length ≤ 9223372036854775807) (hp : StrsAt w p ss) (hs : ∀ s ∈ ss, s.size ≤ 9223372036854775807) (hK : Keyed w) :
    Calls Tryd.prog 5 #[.slice p ss.length cap, .int .i64 m] w fun e w' => e = .returned (.bool true) ∧ Below w.heap.size w w' := by
  have hsane := sane_any w hK
  have hF1 := fun W (hb : Below w.heap.size w W) => few_any ss 25 (by omega) p cap W hl (hp.below hb) hs
  have hKb := fun W (hb : Below w.heap.size w W) => hK.below hb
  clear hp hs hl
  have lP : (fewZ ss 25).length ≤ 25 := by rw [fewZ_len]; omega
  have zP := fewZ_size ss 25
  generalize fewZ ss 25 = P at *
  have smP : Small P := fun x hx => by have := zP x hx; omega
  go_enter Tryd.func5, Tryd.ntmps5
  go_wp2_with fail
  refine hsane.mono ?_
  rintro e w1 ⟨rfl, b1⟩
  go_wp2_with fail
  with_reducible refine Calls.mono (hF1 _ b1) ?_
  rintro e w2 ⟨v2, rfl, own2, b2⟩
  obtain ⟨p2, c2, rfl, cl2, cm2, st2⟩ := own_strs rfl own2
  have B2 := bthen b1 b2
  have hR := root_any P.length P p2 c2 w2 (Nat.le_refl _) (by omega) cl2 cm2 st2 smP (hKb _ B2)
  clear own2 hsane hF1
  go_wp2_with fail
  with_reducible refine Calls.mono hR ?_
  rintro e w3 ⟨rfl, b3⟩
  have B3 := bthen B2 b3
  have st3 := st2.below b3
  clear hR st2
  have hKb3 := fun W (hb : Below w3.heap.size w3 W) => hKb _ (bthen B3 hb)
  obtain ⟨B, hB⟩ : ∃ B, binN P.length = B := ⟨_, rfl⟩
  have hB25 : B ≤ 25 := by rw [← hB]; have := (binN_lt P.length P.length (Nat.le_refl _)).2; omega
  have hbin := fun W => binary_any P.length (by omega) W
  rw [hB] at hbin
  have hwB : IntKind.i64.wrap (2 * (B : Int)) = 2 * (B : Int) := by rw [IntKind.wrap_i64]; omega
  go_wp2_with fail
  go_loopw [7] (fun k wr => ∃ K : Nat, k = .int .i64 K ∧ K ≤ P.length + 1 ∧ Below w3.heap.size w3 wr) (fun k _ => P.length + 1 - (intOf k).toNat)
  case atStart => exact ⟨0, rfl, by omega, Below.refl _ _⟩
  case round =>
    obtain ⟨K, rfl, hK1, hbr⟩ := hrel
    by_cases hKn : K ≤ P.length
    · have d1 : decide ((K : Int) ≤ (P.length : Int)) = true := decide_eq_true (by omega)
      have i0 : (0 : Int) ≤ (K : Int) := by omega
      have i1 : (K : Int) ≤ (P.length : Int) := by omega
      have i2 : (K : Int) ≤ (c2 : Int) := by omega
      have hlt : (P.take K).length = K := by rw [List.length_take]; omega
      have hRt := fun W (hb : Below w3.heap.size w3 W) => root_any K (P.take K) p2 c2 W (by omega) (by omega) (by omega) cm2 ((st3.below hb).take _) (smP.take _) (hKb3 W hb)
      rw [hlt] at hRt
      by_cases hK0 : K = 0
      · subst hK0
        have hver := verify_zero (l := P) (by omega)
        have hV := fun W (hb : Below w3.heap.size w3 W) => verifyExt_any (rootZ []) 0 (rootZ P) P.length [] none 0 W (by omega) (by omega) (by omega) (by omega) (by rw [rootZ_size]; omega) (by rw [rootZ_size]; omega) (by simp) (by simp) (by omega) (fun i hi => by simp at hi) (fun x hx => by simp at hx) (hKb3 W hb)
        rw [hver] at hV
        rw [List.take_zero] at hRt
        generalize rootZ [] = R0 at *
        generalize rootZ P = R at *
        clear hver hlt
        go_wp2_with fail
        with_reducible refine Calls.mono (ext_zero P.length p2 c2 _ (by omega)) ?_; rintro e w4 ⟨rfl, rfl⟩
        go_wp2_with (go_at_call 19; with_reducible refine Calls.mono (hbin _) ?_; rintro e w5 ⟨rfl, rfl⟩)
        with_reducible refine Calls.mono (hRt _ hbr) ?_; rintro e w6 ⟨rfl, b6⟩
        have hb6 := bthen hbr b6
        go_wp2_with fail
        with_reducible refine Calls.mono (hV _ hb6) ?_; rintro e w7 ⟨rfl, b7⟩
        go_wp2
        go_roundw
        case rel => exact ⟨1, by go_num, by omega, bthen hb6 b7⟩
        case measure => simp [intOf]
      · have hver := verify_part (l := P) (m := K) (by omega) hKn (by omega)
        have hsh := part_short2 (l := P) (m := K) (by omega) hKn (by omega)
        have hE := ext_in P K p2 c2 wr (by omega) hKn (by omega) cl2 cm2 (st3.below hbr) smP (hKb3 _ hbr)
        have szX := part_size P.length P K true (Nat.le_refl _)
        have lX : (partZ P K true).length ≤ 60 := by have := partZ_len P.length P K true (Nat.le_refl _); omega
        rw [hB] at hsh
        obtain ⟨X, hX⟩ : ∃ X, partZ P K true = X := ⟨_, rfl⟩
        rw [hX] at hver hsh hE szX lX
        obtain ⟨R, hR⟩ : ∃ R, rootZ P = R := ⟨_, rfl⟩
        rw [hR] at hver
        have hRs : R.size = 32 := by rw [← hR]; exact rootZ_size _
        rw [hR]
        obtain ⟨R0, hR0⟩ : ∃ R0, rootZ (P.take K) = R0 := ⟨_, rfl⟩
        rw [hR0] at hver hRt
        have hR0s : R0.size = 32 := by rw [← hR0]; exact rootZ_size _
        have hV := fun p4 c4 W (hb : Below w3.heap.size w3 W) (cl4 : X.length ≤ c4) (cm4 : c4 ≤ 9223372036854775807) (st4 : StrsAt W p4 X) => verifyExt_any R0 K R P.length X p4 c4 W (by omega) (by omega) (by omega) (by omega) (by omega) (by omega) (by omega) cl4 cm4 st4 (fun x hx => by have := szX x hx; omega) (hKb3 W hb)
        rw [hver] at hV
        have f1 : decide (2 * (B : Int) < (X.length : Int)) = false := decide_eq_false (by omega)
        have f2 : decide (2 * B < X.length) = false := decide_eq_false (by omega)
        have HB := Lib.hid hB
        clear hver hlt hX hR hR0 hB szX d1
        go_wp2_with fail
        with_reducible refine Calls.mono hE ?_; rintro e w4 ⟨v4, rfl, own4, b4⟩
        obtain ⟨p4, c4, rfl, cl4, cm4, st4⟩ := own_strs rfl own4
        have hb4 := bthen hbr b4
        clear own4 hE
        go_wp2_with (go_at_call 19; with_reducible refine Calls.mono (hbin _) ?_; rintro e w5 ⟨rfl, rfl⟩)
        with_reducible refine Calls.mono (hRt _ hb4) ?_; rintro e w6 ⟨rfl, b6⟩
        have hb6 := bthen hb4 b6
        go_wp2_with fail
        with_reducible refine Calls.mono (hV p4 c4 _ hb6 cl4 cm4 (st4.below b6)) ?_; rintro e w7 ⟨rfl, b7⟩
        go_wp2
        go_roundw
        case rel => exact ⟨K + 1, by go_num, by omega, bthen hb6 b7⟩
        case measure => simp [intOf]; omega
    · have d1 : decide ((K : Int) ≤ (P.length : Int)) = false := decide_eq_false (by omega)
      have d1' : decide (K ≤ P.length) = false := decide_eq_false (by omega)
      have hbr3 := bthen B3 hbr
      rcases (by omega : (m < 0 ∨ (P.length : Int) < m) ∨ m = 0 ∨ (1 ≤ m ∧ m ≤ (P.length : Int))) with hm | hm | ⟨hma, hmb⟩
      · have hver := verify_outside (old := rootZ P) (r := rootZ P) (m := m) (n := P.length) (p := []) hm
        have hV := verifyExt_any (rootZ P) m (rootZ P) P.length [] none 0 wr (by omega) (by omega) hm1 hm2 (by rw [rootZ_size]; omega) (by rw [rootZ_size]; omega) (by simp) (by simp) (by omega) (fun i hi => by simp at hi) (fun x hx => by simp at hx) (hKb3 _ hbr)
        rw [hver] at hV
        have hE := ext_out P.length m p2 c2 wr hm hm1 hm2 (by omega)
        have hin : (decide (0 ≤ m) && decide (m ≤ (P.length : Int))) = false := by
          rcases hm with hm | hm
          · rw [decide_eq_false (by omega : ¬ 0 ≤ m)]; rfl
          · rw [decide_eq_false (by omega : ¬ m ≤ (P.length : Int)), Bool.and_false]
        generalize rootZ P = R at *
        clear hver
        rcases hm with hm | hm
        · have e1 : decide (0 ≤ m) = false := decide_eq_false (by omega)
          clear hin
          go_wp2_with fail
          with_reducible refine Calls.mono hE ?_; rintro e w4 ⟨rfl, rfl⟩
          go_wp2_with fail
          with_reducible refine Calls.mono hV ?_; rintro e w5 ⟨rfl, b5⟩
          go_wp2
          go_ret
          exact ⟨rfl, bthen hbr3 b5⟩
        · have e1 : decide (0 ≤ m) = true := decide_eq_true (by omega)
          have e2 : decide (m ≤ (P.length : Int)) = false := decide_eq_false (by omega)
          clear hin
          go_wp2_with fail
          with_reducible refine Calls.mono hE ?_; rintro e w4 ⟨rfl, rfl⟩
          go_wp2_with fail
          with_reducible refine Calls.mono hV ?_; rintro e w5 ⟨rfl, b5⟩
          go_wp2
          go_ret
          exact ⟨rfl, bthen hbr3 b5⟩
      · subst hm
        have e2 : decide ((0 : Int) ≤ (P.length : Int)) = true := decide_eq_true (by omega)
        generalize rootZ P = R at *
        go_wp2_with fail
        with_reducible refine Calls.mono (ext_zero P.length p2 c2 _ (by omega)) ?_; rintro e w4 ⟨rfl, rfl⟩
        go_wp2
        go_ret
        exact ⟨rfl, hbr3⟩
      · obtain ⟨M, rfl⟩ : ∃ M : Nat, m = (M : Int) := ⟨m.toNat, by omega⟩
        have hE := ext_in P M p2 c2 wr (by omega) (by omega) (by omega) cl2 cm2 (st3.below hbr) smP (hKb3 _ hbr)
        have e1 : decide ((0 : Int) ≤ (M : Int)) = true := decide_eq_true (by omega)
        have e2 : decide ((M : Int) ≤ (P.length : Int)) = true := decide_eq_true (by omega)
        have e2' : decide (M ≤ P.length) = true := decide_eq_true (by omega)
        generalize rootZ P = R at *
        generalize partZ P M true = X at *
        go_wp2_with fail
        with_reducible refine Calls.mono hE ?_; rintro e w4 ⟨v4, rfl, own4, b4⟩
        go_wp2
        go_ret
        exact ⟨rfl, bthen hbr3 b4⟩
end Go.Proofs.YtfgojhhphknjkaaDoor
