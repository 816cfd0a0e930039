/- The reference implementation's text: its parts. -/
import Derived.Test.YtfpmmfoinjcclaaDoorTcFmt
import Derived.Test.YtfpmmfoinjcclaaDoorTcRef
import Derived.Test.YtfpmmfoinjcclaaDoorTcText
namespace Go.Proofs.YtfpmmfoinjcclaaDoor
open Go.RowKit

set_option maxHeartbeats 1000000 in
theorem rdropped_any (a b c d m : Nat) (w : World) (hm : m ≤ 100000000) :
    Calls Tryd.prog 43 #[.agg #[iv a, iv b, iv c, iv d], .int .i64 (m : Int)] w fun e w' => e = .returned (.int .i64 ((if m % 10 = 0 then 0 else d : Nat) : Int)) ∧ Below w.heap.size w w' := by
  have e1 : (m : Int) % 10 = ((m % 10 : Nat) : Int) := by omega
  have e2 : (m : Int).tmod 10 = ((m % 10 : Nat) : Int) := by rw [Int.tmod_eq_emod_of_nonneg (by omega)]; exact e1
  obtain ⟨k, hk⟩ : ∃ k, m % 10 = k := ⟨_, rfl⟩
  rw [hk] at e1 e2 ⊢
  have hkl : k < 10 := by omega
  have w0 : IntKind.i64.wrap (k : Int) = (k : Int) := w64 (by omega) (by omega)
  by_cases h0 : k = 0
  · subst h0
    rw [if_pos rfl]
    go_enter Tryd.func43, Tryd.ntmps43
    go_wp2
    go_ret
    exact ⟨rfl, (Below.refl _ _).alloc (Nat.le_refl _) _⟩
  · rw [if_neg h0]
    have f1 : ((k : Int) == 0) = false := by rw [beq_eq_false_iff_ne]; omega
    go_enter Tryd.func43, Tryd.ntmps43
    go_wp2
    go_ret
    exact ⟨rfl, (Below.refl _ _).alloc (Nat.le_refl _) _⟩

set_option maxRecDepth 100000 in
set_option maxHeartbeats 2000000 in
theorem rtwo_any (n : Nat) (hn : n ≤ 99) (w : World) :
    Calls Tryd.prog 48 #[.int .i64 (n : Int)] w fun e w' => e = .returned (.string (strN (two n))) ∧ Below w.heap.size w w' := by
  obtain ⟨s, hs⟩ : ∃ s, strN (two n) = s := ⟨_, rfl⟩
  rw [hs]
  have hcv : ∀ (g : Nat) (W : World), W.heap[g]? = some (.cells (u8s (two n)).toArray 5 (0, 0)) → Sem.run Tryd.prog (convert 59 9 (.slice (some ⟨g, 0, none⟩) 2 2)) W = .ok (.string s) W := fun g W h => by
    rw [← hs]
    exact strOf_u8s (n₀ := g) (k := 2) (xs := two n) rfl ⟨rfl, .inr ⟨g, 2, _, rfl, Nat.le_refl _, h, Nat.le_refl _, by unfold maxLen; omega, rfl, rfl⟩⟩
  have e1 : (n : Int) / 10 = ((n / 10 : Nat) : Int) := by omega
  have e2 : (n : Int).tdiv 10 = ((n / 10 : Nat) : Int) := by rw [Int.tdiv_eq_ediv_of_nonneg (by omega)]; exact e1
  have e3 : (n : Int) % 10 = ((n % 10 : Nat) : Int) := by omega
  have e4 : (n : Int).tmod 10 = ((n % 10 : Nat) : Int) := by rw [Int.tmod_eq_emod_of_nonneg (by omega)]; exact e3
  unfold two at hcv
  obtain ⟨q, hq⟩ : ∃ q, n / 10 = q := ⟨_, rfl⟩
  obtain ⟨r, hr⟩ : ∃ r, n % 10 = r := ⟨_, rfl⟩
  rw [hq] at e1 e2 hcv
  rw [hr] at e3 e4 hcv
  have hql : q < 10 := by omega
  have hrl : r < 10 := by omega
  have w1 : IntKind.i64.wrap (48 + (q : Int)) = 48 + (q : Int) := w64 (by omega) (by omega)
  have w2 : IntKind.i64.wrap (48 + (r : Int)) = 48 + (r : Int) := w64 (by omega) (by omega)
  have w3 : IntKind.u8.wrap (48 + (q : Int)) = 48 + (q : Int) := by rw [IntKind.wrap_u8]; omega
  have w4 : IntKind.u8.wrap (48 + (r : Int)) = 48 + (r : Int) := by rw [IntKind.wrap_u8]; omega
  have hM : Sem.run Tryd.prog (convert 59 9 (.slice (some ⟨w.heap.size, 0, none⟩) 2 2)) (w.alloc (.cells #[.int .u8 (48 + (q : Int)), .int .u8 (48 + (r : Int))] 5)) = .ok (.string s) (w.alloc (.cells #[.int .u8 (48 + (q : Int)), .int .u8 (48 + (r : Int))] 5)) :=
    hcv _ _ (by rw [heap_alloc_new]; simp [u8s])
  clear hs hq hr hcv
  go_enter Tryd.func48, Tryd.ntmps48
  go_wp2
  go_ret
  exact ⟨rfl, (Below.refl _ _).alloc (Nat.le_refl _) _⟩

theorem strN_cat (l m : List Nat) : strN (l ++ m) = strN l ++ strN m := by
  apply ByteArray.ext
  apply Array.ext'
  show ((l ++ m).map fun x : Nat => (x : Int)).map (fun n => UInt8.ofNat n.toNat) = _
  rw [ByteArray.data_append, Array.toList_append, List.map_append, List.map_append]
  rfl
set_option maxRecDepth 100000 in
set_option maxHeartbeats 2000000 in
theorem rtext_any (a b c d m u f : Nat) (w : World) (hd : d ≤ 4) (hm : m < 1440) (hu : u ≤ 99) (hf : f ≤ 99) :
    Calls Tryd.prog 44 #[.agg #[iv a, iv b, iv c, iv d], .int .i64 (m : Int), .int .i64 (u : Int), .int .i64 (f : Int)] w fun e w' => e = .returned (.string (strN (txtL (if 0 < d then 59 else 58) (m / 60) (m % 60) u f))) ∧ Below w.heap.size w w' := by
  have e1 : (m : Int) / 60 = ((m / 60 : Nat) : Int) := by omega
  have e2 : (m : Int).tdiv 60 = ((m / 60 : Nat) : Int) := by rw [Int.tdiv_eq_ediv_of_nonneg (by omega)]; exact e1
  have e3 : (m : Int) % 60 = ((m % 60 : Nat) : Int) := by omega
  have e4 : (m : Int).tmod 60 = ((m % 60 : Nat) : Int) := by rw [Int.tmod_eq_emod_of_nonneg (by omega)]; exact e3
  obtain ⟨q, hq⟩ : ∃ q, m / 60 = q := ⟨_, rfl⟩
  obtain ⟨r, hr⟩ : ∃ r, m % 60 = r := ⟨_, rfl⟩
  rw [hq] at e1 e2 ⊢
  rw [hr] at e3 e4 ⊢
  have hql : q ≤ 99 := by omega
  have hrl : r ≤ 99 := by omega
  have wq : IntKind.i64.wrap (q : Int) = (q : Int) := w64 (by omega) (by omega)
  have wr : IntKind.i64.wrap (r : Int) = (r : Int) := w64 (by omega) (by omega)
  have hm' : (m : Int) < 1440 := by omega
  clear hq hr
  have h1 := rtwo_any q hql
  have h2 := rtwo_any r hrl
  have h3 := rtwo_any u hu
  have h4 := rtwo_any f hf
  have z1 : (strN (two q)).size = 2 := strN_size (two_lt (by omega))
  have z2 : (strN (two r)).size = 2 := strN_size (two_lt (by omega))
  have z3 : (strN (two u)).size = 2 := strN_size (two_lt (by omega))
  have z4 : (strN (two f)).size = 2 := strN_size (two_lt (by omega))
  have hT : ∀ p, strN (two q) ++ ⟨#[58]⟩ ++ strN (two r) ++ ⟨#[58]⟩ ++ strN (two u) ++ strN [p] ++ strN (two f) = strN (txtL p q r u f) := by
    intro p
    unfold txtL
    rw [strN_cat, strN_cat, strN_cat, strN_cat, strN_cat, strN_cat]
    rfl
  have hT59 := hT 59
  have hT58 := hT 58
  clear hT
  rw [show strN [59] = ⟨#[59]⟩ from rfl] at hT59
  rw [show strN [58] = ⟨#[58]⟩ from rfl] at hT58
  obtain ⟨t59, g59⟩ : ∃ t, strN (txtL 59 q r u f) = t := ⟨_, rfl⟩
  obtain ⟨t58, g58⟩ : ∃ t, strN (txtL 58 q r u f) = t := ⟨_, rfl⟩
  rw [g59] at hT59
  rw [g58] at hT58
  generalize strN (two q) = s1 at *
  generalize strN (two r) = s2 at *
  generalize strN (two u) = s3 at *
  generalize strN (two f) = s4 at *
  by_cases h0 : 0 < d
  · have f1 : decide ((0 : Int) < (d : Int)) = true := decide_eq_true (by omega)
    have f2 : decide (0 < d) = true := decide_eq_true h0
    rw [if_pos h0, g59]
    clear h0 g58 hT58
    go_enter Tryd.func44, Tryd.ntmps44
    go_wp2_with fail
    refine Calls.mono (h1 _) ?_; rintro e w1 ⟨rfl, b1⟩
    go_wp2_with fail
    refine Calls.mono (h2 _) ?_; rintro e w2 ⟨rfl, b2⟩
    go_wp2_with fail
    refine Calls.mono (h3 _) ?_; rintro e w3 ⟨rfl, b3⟩
    go_wp2_with fail
    refine Calls.mono (h4 _) ?_; rintro e w4 ⟨rfl, b4⟩
    go_wp2_with fail
    have hb := bthen (bthen (bthen (bthen ((Below.refl w.heap.size w).alloc (Nat.le_refl _) _) b1) b2) b3) b4
    go_ret
    exact ⟨rfl, hb⟩
  · have hd0 : d = 0 := by omega
    subst hd0
    rw [if_neg h0, g58]
    clear h0 g59 hT59
    go_enter Tryd.func44, Tryd.ntmps44
    go_wp2_with fail
    refine Calls.mono (h1 _) ?_; rintro e w1 ⟨rfl, b1⟩
    go_wp2_with fail
    refine Calls.mono (h2 _) ?_; rintro e w2 ⟨rfl, b2⟩
    go_wp2_with fail
    refine Calls.mono (h3 _) ?_; rintro e w3 ⟨rfl, b3⟩
    go_wp2_with fail
    refine Calls.mono (h4 _) ?_; rintro e w4 ⟨rfl, b4⟩
    go_wp2_with fail
    have hb := bthen (bthen (bthen (bthen ((Below.refl w.heap.size w).alloc (Nat.le_refl _) _) b1) b2) b3) b4
    go_ret
    exact ⟨rfl, hb⟩
end Go.Proofs.YtfpmmfoinjcclaaDoor
