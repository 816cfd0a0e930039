/- TimecodeTextMatchesReference -/
import Derived.Test.YtfpmmfoinjcclaaDoorTcTxM
import Derived.Test.YtfpmmfoinjcclaaDoorTcClose
import Derived.Test.YtfpmmfoinjcclaaDoorTcRound
namespace Go.Proofs.YtfpmmfoinjcclaaDoor
open Go.RowKit

theorem boxI2 (w : World) (a b : Int) : ∃ W0, w.alloc (.cells #[iv a, iv b] 3) = W0 ∧ Below w.heap.size w W0 ∧ W0.heap.size = w.heap.size + 1 ∧
    W0.cell? ⟨w.heap.size, 0, none⟩ = some (iv a) ∧ W0.cell? ⟨w.heap.size, 1, none⟩ = some (iv b) :=
  have k := Arr.new w 3 [iv a, iv b]
  ⟨_, rfl, (Below.refl _ _).alloc (Nat.le_refl _) _, by simp, k.cell rfl, k.cell rfl⟩

set_option maxRecDepth 100000 in
set_option maxHeartbeats 4000000 in
theorem textm_law (a b c n : Int) (s : ByteArray) (w : World) (c1 : -9223372036854775808 ≤ c) (c2 : c ≤ 9223372036854775807) (n1 : -9223372036854775808 ≤ n) (n2 : n ≤ 9223372036854775807) (hs : s.size ≤ maxLen) (hF : FmtAt w) :
    Calls Tryd.prog 4 #[.agg #[iv a, iv b], .int .i64 c, .int .i64 n, .string s] w fun e w' => e = .returned (.bool true) ∧ Below w.heap.size w w' := by
  have HF := fun W (hb : Below w.heap.size w W) => hF.below hb
  obtain ⟨-, x, -, -, hx, -, hrate⟩ := law_rate c c1 c2
  obtain ⟨k, hk, hpk⟩ := law_pick n 100000002 n1 n2 (by decide) (by decide)
  unfold Rt.val at hrate
  generalize (x.num : Int) = xa at *
  generalize (x.den : Int) = xb at *
  clear hx x
  obtain ⟨sc, hsc⟩ : ∃ sc, cut40 s = sc := ⟨_, rfl⟩
  have hscl : sc.size ≤ maxLen := by rw [← hsc]; unfold cut40 maxLen; rw [ByteArray.size_extract]; omega
  have HSC : Hid (cut40 s = sc) := Lib.hid hsc
  clear hsc
  unfold maxLen at hs
  by_cases h40 : 40 < s.size
  · have h40i : (40 : Int) < (s.size : Int) := by omega
    have h40d : decide ((40 : Int) < (s.size : Int)) = true := decide_eq_true h40i
    have h40n : decide (40 < s.size) = true := decide_eq_true h40
    have hcut : s.extract 0 40 = sc := by rw [← HSC.out]; unfold cut40; rw [show (min (s.size : Int) 40).toNat = 40 by omega]
    have j1 : (40 : Int) ≤ (s.size : Int) := by omega
    clear HSC
    go_enter Tryd.func4, Tryd.ntmps4
    go_wp2_with fail
    obtain ⟨W1, hW1, hb1, hsz1, -, -⟩ := box2 w a b
    have kA : Arr W1 w.heap.size 23 [iv a, iv b] := by
      rw [← hW1]; exact Arr.new w 23 [iv a, iv b]
    have hszW : w.heap.size < W1.heap.size := by omega
    rw [hW1]
    clear hW1 hsz1
    refine Calls.mono (sane_any _ (HF _ hb1)) ?_; rintro e w1 ⟨rfl, g1⟩
    have hb1 := bthen hb1 g1
    have kA := kA.below g1 hszW
    have hszw : w.heap.size < w1.heap.size := by have := g1.size; omega
    clear g1 hszW
    by_cases hc : 0 ≤ c
    · have hcd : decide (0 ≤ c) = true := decide_eq_true hc
      go_wp2_with fail
      refine Calls.mono (hrate _) ?_; rintro e q21 ⟨rfl, g21⟩
      have hb21 := bthen hb1 g21
      have kA := kA.below g21 hszw
      have hsz21 : w.heap.size < q21.heap.size := by have := g21.size; omega
      have z0 := kA.cell (i := 0) rfl
      have z1 := kA.cell (i := 1) rfl
      have f0 := fun i => kA.frozen i
      go_wp2_with fail
      have kA' := (kA.set 0 (iv xa)).set 1 (iv xb)
      have hbs := (hb21.setCell (p := ⟨w.heap.size, 0, none⟩) (by simp) (iv xa)).setCell (p := ⟨w.heap.size, 1, none⟩) (by simp) (iv xb)
      clear z0 z1 f0 kA
      generalize (q21.setCell ⟨w.heap.size, 0, none⟩ (iv xa)).setCell ⟨w.heap.size, 1, none⟩ (iv xb) = u1 at *
      have kA : Arr u1 w.heap.size 23 _ := kA'
      clear kA'
      have hbu := hbs; clear hbs hrate
      have k0 := kA.cell (i := 0) rfl
      have k1 := kA.cell (i := 1) rfl
      have hlt : w.heap.size < u1.heap.size := kA.lt
      go_wp2_with (first | (go_at_call 14; with_reducible refine Calls.mono (hpk _) ?_; rintro e u2 ⟨rfl, rfl⟩) | fail)
      obtain ⟨w4, hW4, hb34, hsz4, v0, v1⟩ := boxI2 u1 n k
      rw [hW4]; clear hW4
      obtain ⟨T, hT⟩ : ∃ T, u1.heap.size = T := ⟨_, rfl⟩
      obtain ⟨k0, k1⟩ := keep2 k0 k1 hb34 hlt
      have hbw4 := bthen hbu hb34
      rw [hT] at v0 v1 hsz4 ⊢
      have hlt4 : w.heap.size < w4.heap.size := by omega
      go_loopw [35] (fun q wr => ∃ Q : Nat, q = .int .i64 Q ∧ Q ≤ 2 ∧ Below w4.heap.size w4 wr) (fun q _ => 2 - (intOf q).toNat)
      case atStart => exact ⟨0, rfl, by omega, Below.refl _ _⟩
      case round =>
        obtain ⟨Q, rfl, hQ, hB⟩ := hrel
        have hsr := hB.size
        obtain ⟨k0, k1⟩ := keep2 k0 k1 hB (by omega)
        have v0 := (hB.cell (p := ⟨T, 0, none⟩) (by simp; omega)).trans v0
        have v1 := (hB.cell (p := ⟨T, 1, none⟩) (by simp; omega)).trans v1
        have hbr := bthen hbw4 hB
        by_cases hQ2 : Q < 2
        · obtain ⟨kk, hkk⟩ : ∃ kk, wr.cell? ⟨T, Q, none⟩ = some (iv kk) := by
            rcases (by omega : Q = 0 ∨ Q = 1) with rfl | rfl
            · exact ⟨_, v0⟩
            · exact ⟨_, v1⟩
          have q0 : (0 : Int) ≤ (Q : Int) := by omega
          have q3 : (Q : Int) < 2 := by omega
          clear v0 v1
          have hf1 := fun W h => format_t xa xb kk W h
          have hf2 := fun W => rformat_t xa xb kk W
          obtain ⟨S, hS⟩ : ∃ S, fmtS xa xb kk = S := ⟨_, rfl⟩
          obtain ⟨E, hE⟩ : ∃ E, fmtE xa xb kk = E := ⟨_, rfl⟩
          rw [hS, hE] at hf1
          simp only [hS, hE] at hf2
          clear hS hE
          have u1 : (S.toList != S.toList) = false := by simp
          have u2 : ((E : Int) != E) = false := bneF rfl
          go_wp2_with fail
          refine Calls.mono (hf1 _ (HF _ hbr)) ?_; rintro e x1 ⟨rfl, y1⟩
          obtain ⟨k0, k1⟩ := keep2 k0 k1 y1 (by omega)
          have hsx := y1.size
          go_wp2_with fail
          refine Calls.mono (hf2 _) ?_; rintro e x2 ⟨rfl, y2⟩
          have hB2 := bthen (bthen hB y1) y2
          go_wp2
          go_roundw
          case rel => exact ⟨Q + 1, by go_num, by omega, hB2⟩
          case measure => simp [intOf]; omega
        · obtain rfl : Q = 2 := by omega
          clear v0 v1
          have hp1 := fun W h => parse_t xa xb sc hscl W h
          have hp2 := fun W => rparse_t xa xb sc W
          obtain ⟨P, hP⟩ : ∃ P, prsN xa xb sc = P := ⟨_, rfl⟩
          obtain ⟨E, hE⟩ : ∃ E, prsE xa xb sc = E := ⟨_, rfl⟩
          simp only [hP, hE] at hp1 hp2
          clear hP hE
          go_wp2_with fail
          refine Calls.mono (hp1 _ (HF _ hbr)) ?_; rintro e x1 ⟨rfl, y1⟩
          have hbx := bthen hbr y1
          obtain ⟨k0, k1⟩ := keep2 k0 k1 y1 (by omega)
          go_wp2_with fail
          refine Calls.mono (hp2 _) ?_; rintro e x2 ⟨rfl, y2⟩
          have hbx2 := bthen hbx y2
          go_wp2
          go_ret
          exact ⟨rfl, hbx2⟩
    · have hcd : decide (0 ≤ c) = false := decide_eq_false hc
      clear hrate
      have k0 := kA.cell (i := 0) rfl
      have k1 := kA.cell (i := 1) rfl
      have hlt : w.heap.size < w1.heap.size := kA.lt
      go_wp2_with (first | (go_at_call 14; with_reducible refine Calls.mono (hpk _) ?_; rintro e u2 ⟨rfl, rfl⟩) | fail)
      obtain ⟨w4, hW4, hb34, hsz4, v0, v1⟩ := boxI2 w1 n k
      rw [hW4]; clear hW4
      obtain ⟨T, hT⟩ : ∃ T, w1.heap.size = T := ⟨_, rfl⟩
      obtain ⟨k0, k1⟩ := keep2 k0 k1 hb34 hlt
      have hbw4 := bthen hb1 hb34
      rw [hT] at v0 v1 hsz4 ⊢
      have hlt4 : w.heap.size < w4.heap.size := by omega
      go_loopw [35] (fun q wr => ∃ Q : Nat, q = .int .i64 Q ∧ Q ≤ 2 ∧ Below w4.heap.size w4 wr) (fun q _ => 2 - (intOf q).toNat)
      case atStart => exact ⟨0, rfl, by omega, Below.refl _ _⟩
      case round =>
        obtain ⟨Q, rfl, hQ, hB⟩ := hrel
        have hsr := hB.size
        obtain ⟨k0, k1⟩ := keep2 k0 k1 hB (by omega)
        have v0 := (hB.cell (p := ⟨T, 0, none⟩) (by simp; omega)).trans v0
        have v1 := (hB.cell (p := ⟨T, 1, none⟩) (by simp; omega)).trans v1
        have hbr := bthen hbw4 hB
        by_cases hQ2 : Q < 2
        · obtain ⟨kk, hkk⟩ : ∃ kk, wr.cell? ⟨T, Q, none⟩ = some (iv kk) := by
            rcases (by omega : Q = 0 ∨ Q = 1) with rfl | rfl
            · exact ⟨_, v0⟩
            · exact ⟨_, v1⟩
          have q0 : (0 : Int) ≤ (Q : Int) := by omega
          have q3 : (Q : Int) < 2 := by omega
          clear v0 v1
          have hf1 := fun W h => format_t a b kk W h
          have hf2 := fun W => rformat_t a b kk W
          obtain ⟨S, hS⟩ : ∃ S, fmtS a b kk = S := ⟨_, rfl⟩
          obtain ⟨E, hE⟩ : ∃ E, fmtE a b kk = E := ⟨_, rfl⟩
          rw [hS, hE] at hf1
          simp only [hS, hE] at hf2
          clear hS hE
          have u1 : (S.toList != S.toList) = false := by simp
          have u2 : ((E : Int) != E) = false := bneF rfl
          go_wp2_with fail
          refine Calls.mono (hf1 _ (HF _ hbr)) ?_; rintro e x1 ⟨rfl, y1⟩
          obtain ⟨k0, k1⟩ := keep2 k0 k1 y1 (by omega)
          have hsx := y1.size
          go_wp2_with fail
          refine Calls.mono (hf2 _) ?_; rintro e x2 ⟨rfl, y2⟩
          have hB2 := bthen (bthen hB y1) y2
          go_wp2
          go_roundw
          case rel => exact ⟨Q + 1, by go_num, by omega, hB2⟩
          case measure => simp [intOf]; omega
        · obtain rfl : Q = 2 := by omega
          clear v0 v1
          have hp1 := fun W h => parse_t a b sc hscl W h
          have hp2 := fun W => rparse_t a b sc W
          obtain ⟨P, hP⟩ : ∃ P, prsN a b sc = P := ⟨_, rfl⟩
          obtain ⟨E, hE⟩ : ∃ E, prsE a b sc = E := ⟨_, rfl⟩
          simp only [hP, hE] at hp1 hp2
          clear hP hE
          go_wp2_with fail
          refine Calls.mono (hp1 _ (HF _ hbr)) ?_; rintro e x1 ⟨rfl, y1⟩
          have hbx := bthen hbr y1
          obtain ⟨k0, k1⟩ := keep2 k0 k1 y1 (by omega)
          go_wp2_with fail
          refine Calls.mono (hp2 _) ?_; rintro e x2 ⟨rfl, y2⟩
          have hbx2 := bthen hbx y2
          go_wp2
          go_ret
          exact ⟨rfl, hbx2⟩
  · have h40i : ¬ (40 : Int) < (s.size : Int) := by omega
    have h40d : decide ((40 : Int) < (s.size : Int)) = false := decide_eq_false h40i
    have h40n : decide (40 < s.size) = false := decide_eq_false h40
    have hcut : s = sc := by rw [← HSC.out]; unfold cut40; rw [show (min (s.size : Int) 40).toNat = s.size by omega, ByteArray.extract_zero_size]
    clear HSC
    subst hcut
    go_enter Tryd.func4, Tryd.ntmps4
    go_wp2_with fail
    obtain ⟨W1, hW1, hb1, hsz1, -, -⟩ := box2 w a b
    have kA : Arr W1 w.heap.size 23 [iv a, iv b] := by
      rw [← hW1]; exact Arr.new w 23 [iv a, iv b]
    have hszW : w.heap.size < W1.heap.size := by omega
    rw [hW1]
    clear hW1 hsz1
    refine Calls.mono (sane_any _ (HF _ hb1)) ?_; rintro e w1 ⟨rfl, g1⟩
    have hb1 := bthen hb1 g1
    have kA := kA.below g1 hszW
    have hszw : w.heap.size < w1.heap.size := by have := g1.size; omega
    clear g1 hszW
    by_cases hc : 0 ≤ c
    · have hcd : decide (0 ≤ c) = true := decide_eq_true hc
      go_wp2_with fail
      refine Calls.mono (hrate _) ?_; rintro e q21 ⟨rfl, g21⟩
      have hb21 := bthen hb1 g21
      have kA := kA.below g21 hszw
      have hsz21 : w.heap.size < q21.heap.size := by have := g21.size; omega
      have z0 := kA.cell (i := 0) rfl
      have z1 := kA.cell (i := 1) rfl
      have f0 := fun i => kA.frozen i
      go_wp2_with fail
      have kA' := (kA.set 0 (iv xa)).set 1 (iv xb)
      have hbs := (hb21.setCell (p := ⟨w.heap.size, 0, none⟩) (by simp) (iv xa)).setCell (p := ⟨w.heap.size, 1, none⟩) (by simp) (iv xb)
      clear z0 z1 f0 kA
      generalize (q21.setCell ⟨w.heap.size, 0, none⟩ (iv xa)).setCell ⟨w.heap.size, 1, none⟩ (iv xb) = u1 at *
      have kA : Arr u1 w.heap.size 23 _ := kA'
      clear kA'
      have hbu := hbs; clear hbs hrate
      have k0 := kA.cell (i := 0) rfl
      have k1 := kA.cell (i := 1) rfl
      have hlt : w.heap.size < u1.heap.size := kA.lt
      go_wp2_with (first | (go_at_call 14; with_reducible refine Calls.mono (hpk _) ?_; rintro e u2 ⟨rfl, rfl⟩) | fail)
      obtain ⟨w4, hW4, hb34, hsz4, v0, v1⟩ := boxI2 u1 n k
      rw [hW4]; clear hW4
      obtain ⟨T, hT⟩ : ∃ T, u1.heap.size = T := ⟨_, rfl⟩
      obtain ⟨k0, k1⟩ := keep2 k0 k1 hb34 hlt
      have hbw4 := bthen hbu hb34
      rw [hT] at v0 v1 hsz4 ⊢
      have hlt4 : w.heap.size < w4.heap.size := by omega
      go_loopw [35] (fun q wr => ∃ Q : Nat, q = .int .i64 Q ∧ Q ≤ 2 ∧ Below w4.heap.size w4 wr) (fun q _ => 2 - (intOf q).toNat)
      case atStart => exact ⟨0, rfl, by omega, Below.refl _ _⟩
      case round =>
        obtain ⟨Q, rfl, hQ, hB⟩ := hrel
        have hsr := hB.size
        obtain ⟨k0, k1⟩ := keep2 k0 k1 hB (by omega)
        have v0 := (hB.cell (p := ⟨T, 0, none⟩) (by simp; omega)).trans v0
        have v1 := (hB.cell (p := ⟨T, 1, none⟩) (by simp; omega)).trans v1
        have hbr := bthen hbw4 hB
        by_cases hQ2 : Q < 2
        · obtain ⟨kk, hkk⟩ : ∃ kk, wr.cell? ⟨T, Q, none⟩ = some (iv kk) := by
            rcases (by omega : Q = 0 ∨ Q = 1) with rfl | rfl
            · exact ⟨_, v0⟩
            · exact ⟨_, v1⟩
          have q0 : (0 : Int) ≤ (Q : Int) := by omega
          have q3 : (Q : Int) < 2 := by omega
          clear v0 v1
          have hf1 := fun W h => format_t xa xb kk W h
          have hf2 := fun W => rformat_t xa xb kk W
          obtain ⟨S, hS⟩ : ∃ S, fmtS xa xb kk = S := ⟨_, rfl⟩
          obtain ⟨E, hE⟩ : ∃ E, fmtE xa xb kk = E := ⟨_, rfl⟩
          rw [hS, hE] at hf1
          simp only [hS, hE] at hf2
          clear hS hE
          have u1 : (S.toList != S.toList) = false := by simp
          have u2 : ((E : Int) != E) = false := bneF rfl
          go_wp2_with fail
          refine Calls.mono (hf1 _ (HF _ hbr)) ?_; rintro e x1 ⟨rfl, y1⟩
          obtain ⟨k0, k1⟩ := keep2 k0 k1 y1 (by omega)
          have hsx := y1.size
          go_wp2_with fail
          refine Calls.mono (hf2 _) ?_; rintro e x2 ⟨rfl, y2⟩
          have hB2 := bthen (bthen hB y1) y2
          go_wp2
          go_roundw
          case rel => exact ⟨Q + 1, by go_num, by omega, hB2⟩
          case measure => simp [intOf]; omega
        · obtain rfl : Q = 2 := by omega
          clear v0 v1
          have hp1 := fun W h => parse_t xa xb s hscl W h
          have hp2 := fun W => rparse_t xa xb s W
          obtain ⟨P, hP⟩ : ∃ P, prsN xa xb s = P := ⟨_, rfl⟩
          obtain ⟨E, hE⟩ : ∃ E, prsE xa xb s = E := ⟨_, rfl⟩
          simp only [hP, hE] at hp1 hp2
          clear hP hE
          go_wp2_with fail
          refine Calls.mono (hp1 _ (HF _ hbr)) ?_; rintro e x1 ⟨rfl, y1⟩
          have hbx := bthen hbr y1
          obtain ⟨k0, k1⟩ := keep2 k0 k1 y1 (by omega)
          go_wp2_with fail
          refine Calls.mono (hp2 _) ?_; rintro e x2 ⟨rfl, y2⟩
          have hbx2 := bthen hbx y2
          go_wp2
          go_ret
          exact ⟨rfl, hbx2⟩
    · have hcd : decide (0 ≤ c) = false := decide_eq_false hc
      clear hrate
      have k0 := kA.cell (i := 0) rfl
      have k1 := kA.cell (i := 1) rfl
      have hlt : w.heap.size < w1.heap.size := kA.lt
      go_wp2_with (first | (go_at_call 14; with_reducible refine Calls.mono (hpk _) ?_; rintro e u2 ⟨rfl, rfl⟩) | fail)
      obtain ⟨w4, hW4, hb34, hsz4, v0, v1⟩ := boxI2 w1 n k
      rw [hW4]; clear hW4
      obtain ⟨T, hT⟩ : ∃ T, w1.heap.size = T := ⟨_, rfl⟩
      obtain ⟨k0, k1⟩ := keep2 k0 k1 hb34 hlt
      have hbw4 := bthen hb1 hb34
      rw [hT] at v0 v1 hsz4 ⊢
      have hlt4 : w.heap.size < w4.heap.size := by omega
      go_loopw [35] (fun q wr => ∃ Q : Nat, q = .int .i64 Q ∧ Q ≤ 2 ∧ Below w4.heap.size w4 wr) (fun q _ => 2 - (intOf q).toNat)
      case atStart => exact ⟨0, rfl, by omega, Below.refl _ _⟩
      case round =>
        obtain ⟨Q, rfl, hQ, hB⟩ := hrel
        have hsr := hB.size
        obtain ⟨k0, k1⟩ := keep2 k0 k1 hB (by omega)
        have v0 := (hB.cell (p := ⟨T, 0, none⟩) (by simp; omega)).trans v0
        have v1 := (hB.cell (p := ⟨T, 1, none⟩) (by simp; omega)).trans v1
        have hbr := bthen hbw4 hB
        by_cases hQ2 : Q < 2
        · obtain ⟨kk, hkk⟩ : ∃ kk, wr.cell? ⟨T, Q, none⟩ = some (iv kk) := by
            rcases (by omega : Q = 0 ∨ Q = 1) with rfl | rfl
            · exact ⟨_, v0⟩
            · exact ⟨_, v1⟩
          have q0 : (0 : Int) ≤ (Q : Int) := by omega
          have q3 : (Q : Int) < 2 := by omega
          clear v0 v1
          have hf1 := fun W h => format_t a b kk W h
          have hf2 := fun W => rformat_t a b kk W
          obtain ⟨S, hS⟩ : ∃ S, fmtS a b kk = S := ⟨_, rfl⟩
          obtain ⟨E, hE⟩ : ∃ E, fmtE a b kk = E := ⟨_, rfl⟩
          rw [hS, hE] at hf1
          simp only [hS, hE] at hf2
          clear hS hE
          have u1 : (S.toList != S.toList) = false := by simp
          have u2 : ((E : Int) != E) = false := bneF rfl
          go_wp2_with fail
          refine Calls.mono (hf1 _ (HF _ hbr)) ?_; rintro e x1 ⟨rfl, y1⟩
          obtain ⟨k0, k1⟩ := keep2 k0 k1 y1 (by omega)
          have hsx := y1.size
          go_wp2_with fail
          refine Calls.mono (hf2 _) ?_; rintro e x2 ⟨rfl, y2⟩
          have hB2 := bthen (bthen hB y1) y2
          go_wp2
          go_roundw
          case rel => exact ⟨Q + 1, by go_num, by omega, hB2⟩
          case measure => simp [intOf]; omega
        · obtain rfl : Q = 2 := by omega
          clear v0 v1
          have hp1 := fun W h => parse_t a b s hscl W h
          have hp2 := fun W => rparse_t a b s W
          obtain ⟨P, hP⟩ : ∃ P, prsN a b s = P := ⟨_, rfl⟩
          obtain ⟨E, hE⟩ : ∃ E, prsE a b s = E := ⟨_, rfl⟩
          simp only [hP, hE] at hp1 hp2
          clear hP hE
          go_wp2_with fail
          refine Calls.mono (hp1 _ (HF _ hbr)) ?_; rintro e x1 ⟨rfl, y1⟩
          have hbx := bthen hbr y1
          obtain ⟨k0, k1⟩ := keep2 k0 k1 y1 (by omega)
          go_wp2_with fail
          refine Calls.mono (hp2 _) ?_; rintro e x2 ⟨rfl, y2⟩
          have hbx2 := bthen hbx y2
          go_wp2
          go_ret
          exact ⟨rfl, hbx2⟩
end Go.Proofs.YtfpmmfoinjcclaaDoor
