/- The reference's offset, Local, stretch and Within. -/
import Derived.Test.YtejohdmbnnlhjaaCalRefA
namespace Go.Proofs.Ytejohdmbnnlhjaa
open Go.RowKit

/-- The offset, where each later shift counts. -/
def offR (s : Int) : Int → List (Int × Int) → Int
  | o, [] => o
  | o, (a, p) :: r => offR s (if a ≤ s then p else o) r
theorem offR_late {s : Int} : ∀ {sh : List (Int × Int)} {l o : Int}, ascZ l sh = true → s ≤ l → offR s o sh = o
  | [], _, _, _, _ => rfl
  | (a, p) :: r, l, o, h, hl => by
    simp only [ascZ, Bool.and_eq_true, decide_eq_true_eq] at h
    unfold offR
    rw [if_neg (by omega)]
    exact offR_late h.2 (by omega)
theorem offR_eq {s : Int} : ∀ {sh : List (Int × Int)} {l o : Int}, ascZ l sh = true → offR s o sh = offL s o sh
  | [], _, _, _ => rfl
  | (a, p) :: r, l, o, h => by
    simp only [ascZ, Bool.and_eq_true, decide_eq_true_eq] at h
    unfold offR offL
    by_cases ha : a ≤ s
    · rw [if_pos ha, if_pos ha]; exact offR_eq h.2
    · rw [if_neg ha, if_neg ha]; exact offR_late h.2 (by omega)
theorem offR_drop {s o : Int} {sh : List (Int × Int)} {k : Nat} (h : k < sh.length) : offR s o (sh.drop k) = offR s (if (sh.getD k (0, 0)).1 ≤ s then (sh.getD k (0, 0)).2 else o) (sh.drop (k + 1)) := by
  rw [List.drop_eq_getElem_cons h, List.getD_eq_getElem?_getD, List.getElem?_eq_getElem h]
  rfl

set_option maxRecDepth 100000 in
set_option maxHeartbeats 4000000 in
theorem roffset_any (off s : Int) (p : Option Addr) (cap : Nat) (sh : List (Int × Int)) (w : World) (hS : ShAt w w.heap.size p sh) (hlen : sh.length ≤ 1000) :
    Calls Try.prog 28 #[.agg #[iv off, .slice p sh.length cap], .int .i64 s] w fun e w' => e = .returned (.int .i64 (offR s off sh)) ∧ Below w.heap.size w w' := by
  obtain ⟨V, hV⟩ : ∃ V, offR s off sh = V := ⟨_, rfl⟩
  rw [hV]
  have HV := Lib.hid hV; clear hV
  go_enter Try.func28, Try.ntmps28
  go_wp2_with fail
  obtain ⟨W0, hW0, b0, z0, ka⟩ := boxZ w off (.slice p sh.length cap)
  rw [hW0]; clear hW0
  have c0 := ka.cell (i := 0) rfl
  have c1 := ka.cell (i := 1) rfl
  have hS0 := hS.below b0
  have hzl := ka.lt
  clear hS
  go_loop [5, 6] (fun o i => ∃ (k : Nat) (x : Int), o = .int .i64 x ∧ i = .int .i64 k ∧ k ≤ sh.length ∧ offR s x (sh.drop k) = V) (fun _ i => sh.length - (intOf i).toNat)
  case atStart => exact ⟨0, off, rfl, rfl, Nat.zero_le _, HV.out⟩
  case round =>
    obtain ⟨k, x, rfl, rfl, hk, hx⟩ := hrel
    by_cases hlt : k < sh.length
    · rw [offR_drop hlt] at hx
      obtain ⟨b, ob, rfl, hb, s0, s1⟩ := hS0 k hlt
      obtain ⟨a, ha⟩ : ∃ a, (sh.getD k (0, 0)).1 = a := ⟨_, rfl⟩
      obtain ⟨o, ho⟩ : ∃ a, (sh.getD k (0, 0)).2 = a := ⟨_, rfl⟩
      rw [ha] at s0 hx
      rw [ho] at s1 hx
      by_cases q : a ≤ s
      · rw [if_pos q] at hx
        have HX := Lib.hid hx; clear hx ha ho
        go_wp2_with fail
        go_round
        case rel => exact ⟨k + 1, o, rfl, by go_num, by omega, HX.out⟩
        case measure => simp [intOf]; omega
      · rw [if_neg q] at hx
        have HX := Lib.hid hx; clear hx ha ho
        have q' : s < a := by omega
        go_wp2_with fail
        go_round
        case rel => exact ⟨k + 1, x, rfl, by go_num, by omega, HX.out⟩
        case measure => simp [intOf]; omega
    · obtain rfl : k = sh.length := by omega
      rw [List.drop_length] at hx
      have HX := Lib.hid hx; clear hx
      go_wp2_with fail
      go_ret
      exact ⟨by rw [← HX.out]; rfl, b0⟩

set_option maxRecDepth 100000 in
set_option maxHeartbeats 4000000 in
theorem rlocal_any (off s : Int) (p : Option Addr) (cap : Nat) (sh : List (Int × Int)) (w : World) (hS : ShAt w w.heap.size p sh) (hlen : sh.length ≤ 1000) :
    Calls Try.prog 12 #[.agg #[iv off, .slice p sh.length cap], .int .i64 s] w fun e w' => e = .returned (.tuple #[iv (localZ off sh s).1, iv (localZ off sh s).2]) ∧ Below w.heap.size w w' := by
  have hv := fun W (h : Below w.heap.size w W) => rvalid_any off p cap w.heap.size sh W h.size (hS.below h) hlen
  have ho := fun W (h : Below w.heap.size w W) => roffset_any off s p cap sh W ((hS.below h).mono h.size) hlen
  clear hS
  by_cases h1 : validZ off sh = true
  · by_cases h2 : okSec s = true
    · have hs2 := okSec_iff.1 h2
      obtain ⟨hs0, hs1⟩ := hs2
      have hob := offZ_ok (s := s) h1
      obtain ⟨a, b, e1, e2, e3, e4, e5, e6⟩ := local_val (s := s) h1 hs0 hs1
      rw [offZ_eq hs0] at hob
      rw [offR_eq (valid_asc h1)] at ho
      rw [h1] at hv
      rw [e1]
      obtain ⟨o, hoo⟩ : ∃ o, offL s off sh = o := ⟨_, rfl⟩
      rw [hoo] at ho hob e2
      obtain ⟨ho0, ho1⟩ := hob
      obtain ⟨t, ht⟩ : ∃ t, s + o = t := ⟨_, rfl⟩
      have f0 : IntKind.i64.wrap (s + o) = t := by rw [ht]; exact w64 (by omega) (by omega)
      have f9 : IntKind.i64.wrap t = t := w64 (by omega) (by omega)
      have H1 := Lib.hid h1; clear h1
      obtain ⟨q, hq⟩ : ∃ q, t.tdiv 86400 = q := ⟨_, rfl⟩
      obtain ⟨r, hr⟩ : ∃ r, t.tmod 86400 = r := ⟨_, rfl⟩
      have hqr : t = 86400 * q + r := by rw [← hq, ← hr]; exact (Int.mul_tdiv_add_tmod t 86400).symm
      have hrb : (0 ≤ t ∧ 0 ≤ r ∧ r < 86400) ∨ (t < 0 ∧ -86400 < r ∧ r ≤ 0) := by
        rcases (by omega : 0 ≤ t ∨ t < 0) with h | h
        · refine .inl ⟨h, ?_⟩
          rw [← hr, Int.tmod_eq_emod_of_nonneg h]; omega
        · refine .inr ⟨h, ?_⟩
          rw [← hr, Int.tmod_eq_emod]; split <;> simp <;> omega
      have f1 : IntKind.i64.wrap q = q := w64 (by omega) (by omega)
      have f2 : IntKind.i64.wrap r = r := w64 (by omega) (by omega)
      by_cases hneg : r < 0
      · have ha : q - 1 = a := by omega
        have hb' : t - a * 86400 = b := by omega
        have f3 : IntKind.i64.wrap (q - 1) = a := by rw [ha]; exact w64 (by omega) (by omega)
        have f4 : IntKind.i64.wrap a = a := w64 (by omega) (by omega)
        have f5 : IntKind.i64.wrap (a * 86400) = a * 86400 := w64 (by omega) (by omega)
        have f6 : IntKind.i64.wrap (t - a * 86400) = b := by rw [hb']; exact w64 (by omega) (by omega)
        have tn : t < 0 := by omega
        clear hqr hrb e2 hoo
        go_enter Try.func12, Try.ntmps12
        go_wp2_with fail
        obtain ⟨W0, hW0, b0, z0, ka⟩ := boxZ' w off (.slice p sh.length cap)
        try rw [hW0]
        try clear hW0
        have c0 := ka.cell (i := 0) rfl
        have c1 := ka.cell (i := 1) rfl
        go_wp2_with fail
        refine Calls.mono (hv _ b0) ?_; rintro e w1 ⟨rfl, b1⟩
        have b01 := bthen b0 b1
        have ka1 := ka.below b1 (by omega)
        have c0 := ka1.cell (i := 0) rfl
        have c1 := ka1.cell (i := 1) rfl
        go_wp2_with fail
        refine Calls.mono (ho _ b01) ?_; rintro e w2 ⟨rfl, b2⟩
        go_wp2_with fail
        go_ret2
        exact ⟨rfl, bthen b01 b2⟩
      · have ha : q = a := by omega
        have hb' : t - a * 86400 = b := by omega
        have f4 : IntKind.i64.wrap a = a := w64 (by omega) (by omega)
        have f5 : IntKind.i64.wrap (a * 86400) = a * 86400 := w64 (by omega) (by omega)
        have f6 : IntKind.i64.wrap (t - a * 86400) = b := by rw [hb']; exact w64 (by omega) (by omega)
        rw [ha] at hq f1
        have hneg' : decide (r < 0) = false := by simp; omega
        clear hqr hrb e2 ha hoo
        go_enter Try.func12, Try.ntmps12
        go_wp2_with fail
        obtain ⟨W0, hW0, b0, z0, ka⟩ := boxZ' w off (.slice p sh.length cap)
        try rw [hW0]
        try clear hW0
        have c0 := ka.cell (i := 0) rfl
        have c1 := ka.cell (i := 1) rfl
        go_wp2_with fail
        refine Calls.mono (hv _ b0) ?_; rintro e w1 ⟨rfl, b1⟩
        have b01 := bthen b0 b1
        have ka1 := ka.below b1 (by omega)
        have c0 := ka1.cell (i := 0) rfl
        have c1 := ka1.cell (i := 1) rfl
        go_wp2_with fail
        refine Calls.mono (ho _ b01) ?_; rintro e w2 ⟨rfl, b2⟩
        go_wp2_with fail
        go_ret2
        exact ⟨rfl, bthen b01 b2⟩
    · rw [Bool.not_eq_true] at h2
      have hL : localZ off sh s = (0, 0) := by unfold localZ; rw [h2, Bool.and_false]; simp
      have hs2 : s < 0 ∨ (0 ≤ s ∧ 10000000000 < s) := by
        by_cases h : 0 ≤ s ∧ s ≤ 10000000000
        · rw [okSec_iff.2 h] at h2; cases h2
        · omega
      rw [h1] at hv; rw [hL]
      clear hL ho h2
      rcases hs2 with h3 | ⟨h3, h4⟩
      all_goals
        go_enter Try.func12, Try.ntmps12
        go_wp2_with fail
        obtain ⟨W0, hW0, b0, z0, ka⟩ := boxZ' w off (.slice p sh.length cap)
        try rw [hW0]
        try clear hW0
        have c0 := ka.cell (i := 0) rfl
        have c1 := ka.cell (i := 1) rfl
        go_wp2_with fail
        refine Calls.mono (hv _ b0) ?_; rintro e w1 ⟨rfl, b1⟩
        go_wp2_with fail
        go_ret2
        exact ⟨rfl, bthen b0 b1⟩
  · rw [Bool.not_eq_true] at h1
    have hL : localZ off sh s = (0, 0) := by unfold localZ; rw [h1, Bool.false_and]; simp
    rw [h1] at hv; rw [hL]
    clear hL ho
    go_enter Try.func12, Try.ntmps12
    go_wp2_with fail
    obtain ⟨W0, hW0, b0, z0, ka⟩ := boxZ' w off (.slice p sh.length cap)
    try rw [hW0]
    try clear hW0
    have c0 := ka.cell (i := 0) rfl
    have c1 := ka.cell (i := 1) rfl
    go_wp2_with fail
    refine Calls.mono (hv _ b0) ?_; rintro e w1 ⟨rfl, b1⟩
    go_wp2_with fail
    go_ret2
    exact ⟨rfl, bthen b0 b1⟩
end Go.Proofs.Ytejohdmbnnlhjaa
