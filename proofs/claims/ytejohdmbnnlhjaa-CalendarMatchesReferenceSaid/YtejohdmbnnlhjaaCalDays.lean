/- CalendarDays. -/
import Derived.Test.YtejohdmbnnlhjaaCalDaysM
import Derived.Deep.RegionHeld3
namespace Go.Proofs.Ytejohdmbnnlhjaa
open Go.RowKit

theorem one_int {w : World} {base : Nat} {v : Value} {a : Int} (h : w.ownsRow base 3 1 v 1 (ivs [a])) : ∃ g cap, v = .slice (some ⟨g, 0, none⟩) 1 cap ∧ g < w.heap.size ∧ w.cell? ⟨g, 0, none⟩ = some (iv a) := by
  obtain ⟨g, cap, rfl⟩ := ownsRow_succ h
  exact ⟨g, cap, rfl, (h.lt g rfl).2, h.cellAt 0 (by decide)⟩

set_option maxRecDepth 100000 in
set_option maxHeartbeats 4000000 in
theorem days_law (c : Int) (p : Option Addr) (len cap : Nat) (f : Nat → Int) (n m : Int) (w : World) (c1 : -9223372036854775808 ≤ c) (c2 : c ≤ 9223372036854775807) (hlen : len ≤ 9223372036854775807) (hS : SliceAt w p len (fun i => iv (f i))) (hf : ∀ i, -9223372036854775808 ≤ f i ∧ f i ≤ 9223372036854775807)
    (n1 : -9223372036854775808 ≤ n) (n2 : n ≤ 9223372036854775807) (m1 : -9223372036854775808 ≤ m) (m2 : m ≤ 9223372036854775807) :
    Calls Try.prog 5 #[.int .i64 c, .slice p len cap, .int .i64 n, .int .i64 m] w fun e w' => e = .returned (.bool true) ∧ Below w.heap.size w w' := by
  have hmk := fun W (h : Below w.heap.size w W) => make_any c p len cap f W c1 c2 hlen (fun i hi => by
    obtain ⟨b, o, h1, h2, h3⟩ := hS i hi
    exact ⟨b, o, h1, by have := h.size; omega, (h.cell (p := ⟨b, _, none⟩) h2).trans h3⟩) hf
  obtain ⟨q, hq⟩ : ∃ q, pickZ n 60 = q := ⟨_, rfl⟩
  obtain ⟨q1, q2⟩ : 0 ≤ q ∧ q < 60 := hq ▸ pick_in (by decide)
  have hp1 := fun W => pick_any n 60 W n1 n2 (by decide) (by decide)
  rw [hq] at hp1
  obtain ⟨k, hk⟩ : ∃ k : Nat, pickZ m 12 = (k : Int) := ⟨(pickZ m 12).toNat, by have := (pick_in (c := m) (n := 12) (by decide)).1; omega⟩
  have k1 : k < 12 := by have := (pick_in (c := m) (n := 12) (by decide)).2; omega
  have hp2 := fun W => pick_any m 12 W m1 m2 (by decide) (by decide)
  rw [hk] at hp2
  clear hq hk hS hf
  obtain ⟨first, hfi⟩ : ∃ x, 2 + q = x := ⟨_, rfl⟩
  have f1 : 2 ≤ first := by omega
  have f2 : first < 62 := by omega
  go_enter Try.func5, Try.ntmps5
  go_wp2_with fail
  refine Calls.mono (sane_any _) ?_; rintro e w1 ⟨rfl, b1⟩
  go_wp2_with fail
  refine Calls.mono (hmk _ b1) ?_; rintro e w2 ⟨off, sh, pz, cz, rfl, hv, hl12, hZ, b2⟩
  clear hmk
  have hl : sh.length ≤ 12 := by omega
  have y1 := fun W (h : Below w2.heap.size w2 W) => at_any off first 0 pz cz sh W ((hZ.below h).mono h.size) (by omega)
  have y2 := fun W (h : Below w2.heap.size w2 W) => at_any off (first + k) 0 pz cz sh W ((hZ.below h).mono h.size) (by omega)
  have y3 := fun d W (h : Below w2.heap.size w2 W) => length_any off d pz cz sh W ((hZ.below h).mono h.size) (by omega)
  obtain ⟨L, hL⟩ : ∃ L, atT off sh first 0 = L := ⟨_, rfl⟩
  rw [hL] at y1
  obtain ⟨M, hM⟩ : ∃ M, atT off sh (first + k) 0 = M := ⟨_, rfl⟩
  rw [hM] at y2
  have HL := Lib.hid hL; clear hL
  have HM := Lib.hid hM; clear hM
  have b12 := bthen b1 b2
  clear hl12 b1 b2
  go_wp2_with (first | (go_at_call 15; (with_reducible refine Calls.mono (hp1 _) ?_); rintro e w' ⟨rfl, rfl⟩) | (go_at_call 15; (with_reducible refine Calls.mono (hp2 _) ?_); rintro e w' ⟨rfl, rfl⟩))
  obtain ⟨W3, hW3, b3, z3, kz⟩ := boxZ' w2 off (.slice pz sh.length cz)
  rw [hW3]; clear hW3
  refine Calls.mono (y1 _ b3) ?_; rintro e w4 ⟨v, rfl, o4, b4⟩
  have s4 := b4.size
  have b34 := bthen b3 b4
  have kz := kz.below b4 (by omega)
  have c0 := kz.cell (i := 0) rfl
  have c1 := kz.cell (i := 1) rfl
  go_wp2_with fail
  refine Calls.mono (y2 _ b34) ?_; rintro e w5 ⟨v2, rfl, o5, b5⟩
  have s5 := b5.size
  have b35 := bthen b34 b5
  have kz := kz.below b5 (by omega)
  have c0 := kz.cell (i := 0) rfl
  have c1 := kz.cell (i := 1) rfl
  have hbF := bthen b12 b35
  by_cases hL1 : L.length = 1
  · obtain ⟨a, rfl⟩ : ∃ a, L = [a] := by
      match L, hL1 with
      | [a], _ => exact ⟨a, rfl⟩
    by_cases hM1 : M.length = 1
    · obtain ⟨b, rfl⟩ : ∃ b, M = [b] := by
        match M, hM1 with
        | [b], _ => exact ⟨b, rfl⟩
      obtain ⟨g, cg, rfl, lg, ca⟩ := one_int o4
      obtain ⟨h, ch, rfl, lh, cb⟩ := one_int o5
      have ca := (b5.cell (p := ⟨g, 0, none⟩) lg).trans ca
      obtain ⟨a0, a1, -⟩ := atT_one hv (by omega) (by omega) HL.out
      obtain ⟨b0, b1, -⟩ := atT_one hv (by omega) (by omega) HM.out
      have hZ5 : ShAt w5 w5.heap.size pz sh := (hZ.below b35).mono b35.size
      have hget := fun i (hi : i < sh.length) => (asc_get (valid_asc hv) hi).1
      have HG := Lib.hid hget
      have HV := Lib.hid hv
      have Y3 := Lib.hid y3
      clear hget hv y1 y2 y3 o4 o5 hL1 hM1 b3 b34 b4 b5 hp1 hp2 hZ
      go_wp2_with fail
      go_loop [15] (fun i => ∃ j : Nat, i = .int .i64 j ∧ j ≤ sh.length ∧ ∀ y ∈ sh.take j, ¬ (a - 200000 < y.1 ∧ y.1 < a + 200000) ∧ ¬ (b - 200000 < y.1 ∧ y.1 < b + 200000)) (fun i => sh.length - (intOf i).toNat)
      case atStart => exact ⟨0, rfl, Nat.zero_le _, fun y hy => by simp at hy⟩
      case round =>
        obtain ⟨j, rfl, hj, hno⟩ := hrel
        have HN := Lib.hid hno; clear hno
        by_cases hlt : j < sh.length
        · obtain ⟨bz, oz, rfl, hb, d0, d1⟩ := hZ5 j hlt
          have hg := HG.out j hlt
          have htk : sh.take (j + 1) = sh.take j ++ [sh.getD j (0, 0)] := by rw [List.take_succ_eq_append_getElem hlt, List.getD_eq_getElem?_getD, List.getElem?_eq_getElem hlt]; rfl
          obtain ⟨y, hy⟩ : ∃ y, sh.getD j (0, 0) = y := ⟨_, rfl⟩
          rw [hy] at d0 hg htk
          obtain ⟨x, hx⟩ : ∃ x, y.1 = x := ⟨_, rfl⟩
          rw [hx] at d0 hg
          obtain ⟨x1, x2⟩ := okSec_iff.1 hg
          have HX := Lib.hid hx
          have HT := Lib.hid htk
          clear hx htk hy hg d1
          by_cases p1 : a - 200000 < x ∧ x < a + 200000
          · obtain ⟨p1, p2⟩ := p1
            go_wp2_with fail
            go_ret
            exact ⟨rfl, hbF⟩
          · by_cases p2 : b - 200000 < x ∧ x < b + 200000
            · obtain ⟨p2, p3⟩ := p2
              rcases (by omega : x ≤ a - 200000 ∨ (a - 200000 < x ∧ a + 200000 ≤ x)) with p1 | ⟨p1, p4⟩
              all_goals
                go_wp2_with fail
                go_ret
                exact ⟨rfl, hbF⟩
            · have hnew : ∀ z ∈ sh.take (j + 1), ¬ (a - 200000 < z.1 ∧ z.1 < a + 200000) ∧ ¬ (b - 200000 < z.1 ∧ z.1 < b + 200000) := fun z hz => by
                rw [HT.out] at hz
                rcases List.mem_append.1 hz with hz | hz
                · exact HN.out z hz
                · simp at hz; subst hz; rw [HX.out]; exact ⟨p1, p2⟩
              have HNW := Lib.hid hnew; clear hnew
              rcases (by omega : x ≤ a - 200000 ∨ (a - 200000 < x ∧ a + 200000 ≤ x)) with p1 | ⟨p1, p4⟩ <;> rcases (by omega : x ≤ b - 200000 ∨ (b - 200000 < x ∧ b + 200000 ≤ x)) with p2 | ⟨p2, p5⟩
              all_goals
                go_wp2_with fail
                go_round
                case rel => exact ⟨j + 1, by go_num, by omega, HNW.out⟩
                case measure => simp [intOf]; omega
        · obtain rfl : j = sh.length := by omega
          have hno := HN.out
          rw [List.take_length] at hno
          have hsum := days_math (k := k) HV.out (by omega) (by omega) HL.out HM.out (fun y hy => (hno y hy).1) (fun y hy => (hno y hy).2)
          have hok := (valid_iff HV.out).2.2
          have hsl : (strs 0 off sh).length ≤ 13 := by rw [strs_len]; omega
          have hbd := fun t : Nat => win_bd (first := first) (k := t) (T := strs 0 off sh)
          have hsucc := fun t : Nat => sum_succ (first := first) (k := t) (T := strs 0 off sh) hok
          have hz := sum_zero (first := first) (T := strs 0 off sh)
          have hlen' := fun t (ht : t < k) => length_sum (d := first + (t : Nat)) HV.out (by omega) (by omega)
          have hyc := fun (t : Nat) W hW => Y3.out (first + (t : Int)) W hW
          generalize strs 0 off sh = T at *
          have hB : ∀ t : Nat, t ≤ k → 0 ≤ sumL (winL first t) T ∧ sumL (winL first t) T ≤ 100000000 := fun t ht => by
            have := hbd t
            have h1 : 86400 * (t : Int) * (T.length : Int) ≤ 86400 * 12 * 13 := Int.mul_le_mul (by omega) (by omega) (by omega) (by omega)
            omega
          obtain ⟨S, hS⟩ : ∃ S : Nat → Int, (fun t : Nat => sumL (winL first t) T) = S := ⟨_, rfl⟩
          have hS' : ∀ t : Nat, sumL (winL first t) T = S t := fun t => by rw [← hS]
          simp only [hS'] at hsum hsucc hz hB
          have HSUM := Lib.hid hsum
          have HSUC := Lib.hid hsucc
          have HZ := Lib.hid hz
          have HB := Lib.hid hB
          have HLN := Lib.hid hlen'
          have HYC := Lib.hid hyc
          have HOK := Lib.hid hok
          clear hsum hsucc hz hB hlen' hyc hok hbd hS hS' hno HN HG hZ5
          have hs35 := b35.size
          have lg : g < w5.heap.size := by omega
          have kzl := kz.lt
          go_wp2_with fail
          go_loopw [17, 18] (fun nv dv wr => ∃ t : Nat, nv = .int .i64 (S t) ∧ dv = .int .i64 (first + (t : Int)) ∧ t ≤ k ∧ Below w5.heap.size w5 wr) (fun _ d _ => (first + (k : Int) - intOf d).toNat)
          case atStart => exact ⟨0, by rw [HZ.out], by simp, by omega, Below.refl _ _⟩
          case round =>
            obtain ⟨t, rfl, rfl, ht, hBw⟩ := hrel
            have hsw := hBw.size
            by_cases htk : t < k
            · have hy := fun W hW => HYC.out t W hW
              rw [HLN.out t htk] at hy
              have hsc := HSUC.out t
              have hb1 := HB.out t ht
              have hb2 := HB.out (t + 1) (by omega)
              obtain ⟨y, hyy⟩ : ∃ y, sumL (dayLen (first + (t : Int))) T = y := ⟨_, rfl⟩
              rw [hyy] at hy hsc
              obtain ⟨s0, hs0⟩ : ∃ s0, S t = s0 := ⟨_, rfl⟩
              obtain ⟨s1, hs1⟩ : ∃ s1, S (t + 1) = s1 := ⟨_, rfl⟩
              rw [hs0] at hsc hb1 ⊢
              rw [hs1] at hsc hb2
              have e1 : IntKind.i64.wrap (s0 + y) = s1 := by rw [← hsc]; exact w64 (by omega) (by omega)
              have e2 : s0 + y = s1 := hsc.symm
              have kzr := kz.below hBw kzl
              have d0 := kzr.cell (i := 0) rfl
              have d1 := kzr.cell (i := 1) rfl
              have HS1 := Lib.hid hs1
              clear hyy hs0 hsc hs1
              go_wp2_with fail
              refine Calls.mono (hy _ (bthen b35 hBw)) ?_; rintro e w7 ⟨rfl, b7⟩
              go_wp2_with fail
              go_roundw
              case rel => exact ⟨t + 1, by rw [HS1.out], by go_num, by omega, bthen hBw b7⟩
              case measure => simp [intOf]; omega
            · obtain rfl : t = k := by omega
              have hsm := HSUM.out
              obtain ⟨s0, hs0⟩ : ∃ s0, S t = s0 := ⟨_, rfl⟩
              rw [hs0] at hsm ⊢
              have caw := (hBw.cell (p := ⟨g, 0, none⟩) lg).trans ca
              have cbw := (hBw.cell (p := ⟨h, 0, none⟩) lh).trans cb
              have e1 : IntKind.i64.wrap (b - a) = b - a := w64 (by omega) (by omega)
              have e2 : (s0 == (b - a)) = true := by rw [hsm]; simp
              clear hs0 hsm ca cb
              go_wp2_with fail
              go_quiet (fail)
              go_wp2_with fail
              go_ret
              exact ⟨rfl, bthen hbF (below_drewN hBw nq)⟩
    · obtain ⟨g, cg, rfl, lg, ca⟩ := one_int o4
      obtain ⟨ph, ch, rfl, hlm, -⟩ := ints_at o5
      have t1 : decide ((M.length : Int) = 1) = false := by simp; omega
      have t2 : ((M.length : Int) == 1) = false := by rw [beq_eq_false_iff_ne]; omega
      have t3 : ((M.length : Int) != 1) = true := by rw [bne_iff_ne]; omega
      have hM1' : ¬ (M.length : Int) = 1 := by omega
      go_wp2_with fail
      go_ret
      exact ⟨rfl, hbF⟩
  · obtain ⟨pg, cg, rfl, hlm, -⟩ := ints_at o4
    obtain ⟨ph, ch, rfl, hlm2, -⟩ := ints_at o5
    have t1 : decide ((L.length : Int) = 1) = false := by simp; omega
    have t2 : ((L.length : Int) == 1) = false := by rw [beq_eq_false_iff_ne]; omega
    have t3 : ((L.length : Int) != 1) = true := by rw [bne_iff_ne]; omega
    go_wp2_with fail
    go_ret
    exact ⟨rfl, hbF⟩
end Go.Proofs.Ytejohdmbnnlhjaa
