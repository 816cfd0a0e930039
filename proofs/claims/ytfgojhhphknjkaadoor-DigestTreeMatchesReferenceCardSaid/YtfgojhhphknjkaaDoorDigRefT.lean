/- The reference implementation's tree: Leaf, Node, Left, Root, Proof, Extension. -/
import Derived.Test.YtfgojhhphknjkaaDoorDigRefS
import Derived.Test.YtfgojhhphknjkaaDoorDigPart
namespace Go.Proofs.YtfgojhhphknjkaaDoor
open Go.RowKit

def SmallR (ss : List ByteArray) : Prop := ∀ s ∈ ss, s.size ≤ 1000000
theorem SmallR.take {ss : List ByteArray} (h : SmallR ss) (k : Nat) : SmallR (ss.take k) := fun s hs => h s (List.mem_of_mem_take hs)
theorem SmallR.drop {ss : List ByteArray} (h : SmallR ss) (k : Nat) : SmallR (ss.drop k) := fun s hs => h s (List.mem_of_mem_drop hs)

theorem nb_app (a b : ByteArray) : nb (a ++ b) = nb a ++ nb b := by simp [nb]
theorem rleaf_any (s : ByteArray) (w : World) (hs : s.size ≤ 1000000) (_hK : Keyed w) : Calls Tryd.prog 37 #[.string s] w fun e w' => e = .returned (.string (leafZ s)) ∧ Below w.heap.size w w' := by
  have hc := rSum_any (⟨#[0]⟩ ++ s) (by have e : (⟨#[0]⟩ : ByteArray).size = 1 := (rfl); rw [ByteArray.size_append, e]; omega) w
  rw [show sumZ (⟨#[0]⟩ ++ s) = leafZ s by unfold sumZ leafZ; rw [nb_app, nb0]; rfl] at hc
  generalize leafZ s = Z at *
  go_enter Tryd.func37, Tryd.ntmps37
  go_wp2_with fail
  refine hc.mono ?_
  rintro e w' ⟨rfl, hb⟩
  go_wp2_with fail
  go_ret
  exact ⟨rfl, hb⟩
theorem rnode_any (a b : ByteArray) (w : World) (ha : a.size ≤ 1000000) (hb' : b.size ≤ 1000000) (_hK : Keyed w) : Calls Tryd.prog 38 #[.string a, .string b] w fun e w' => e = .returned (.string (nodeZ a b)) ∧ Below w.heap.size w w' := by
  have hc := rSum_any (⟨#[1]⟩ ++ a ++ b) (by have e : (⟨#[1]⟩ : ByteArray).size = 1 := (rfl); rw [ByteArray.size_append, ByteArray.size_append, e]; omega) w
  rw [show sumZ (⟨#[1]⟩ ++ a ++ b) = nodeZ a b by unfold sumZ nodeZ; rw [nb_app, nb_app, nb1]; rfl] at hc
  generalize nodeZ a b = Z at *
  go_enter Tryd.func38, Tryd.ntmps38
  go_wp2_with fail
  refine hc.mono ?_
  rintro e w' ⟨rfl, hb⟩
  go_wp2_with fail
  go_ret
  exact ⟨rfl, hb⟩

theorem pow_between {n a b : Nat} (h1 : 2 ^ a < n) (h2 : n ≤ 2 * 2 ^ a) (h3 : 2 ^ b < n) (h4 : n ≤ 2 * 2 ^ b) : 2 ^ a = 2 ^ b := by
  have e : ∀ c d : Nat, 2 ^ c < n → n ≤ 2 * 2 ^ d → c < d + 1 := fun c d h1 h2 => by
    have : 2 ^ c < 2 ^ (d + 1) := by rw [Nat.pow_succ]; omega
    exact (Nat.pow_lt_pow_iff_right (by decide)).1 this
  have := e a b h1 h4
  have := e b a h3 h2
  rw [show a = b by omega]

set_option maxHeartbeats 1000000 in
theorem rsplit_any (n : Nat) (h1 : 2 ≤ n) (h2 : n ≤ 9223372036854775807) (w : World) : Calls Tryd.prog 32 #[.int .i64 n] w fun e w' => e = .returned (.int .i64 (splitZ n : Nat)) ∧ w = w' := by
  obtain ⟨s1, s2, s3⟩ := splitZ_spec h1 h2
  have hS : Hid (∃ b, splitZ n = 2 ^ b) := Lib.hid ⟨_, rfl⟩
  generalize splitZ n = S at *
  go_enter Tryd.func32, Tryd.ntmps32
  go_wp2_with fail
  go_loop [3] (fun i => ∃ k : Nat, i = .int .i64 k ∧ 1 ≤ k ∧ k < n ∧ Hid (∃ a, k = 2 ^ a)) (fun i => n - (intOf i).toNat)
  case atStart => exact ⟨1, rfl, by omega, by omega, Lib.hid ⟨0, rfl⟩⟩
  case round =>
    obtain ⟨k, rfl, hk1, hkn, hp⟩ := hrel
    have c1 : (n : Int) - (k : Int) = ((n - k : Nat) : Int) := by omega
    have c2 : IntKind.i64.wrap ((n : Int) - (k : Int)) = (n : Int) - (k : Int) := by rw [IntKind.wrap_i64]; omega
    by_cases hlt : k < n - k
    · have d1 : decide ((k : Int) < (n : Int) - (k : Int)) = true := decide_eq_true (by omega)
      have d2 : decide (k < n - k) = true := decide_eq_true hlt
      have c3 : IntKind.i64.wrap (2 * (k : Int)) = 2 * (k : Int) := by rw [IntKind.wrap_i64]; omega
      have hp2 : Hid (∃ a, 2 * k = 2 ^ a) := Lib.hid (by obtain ⟨a, ha⟩ := hp.out; exact ⟨a + 1, by rw [Nat.pow_succ, ha]; omega⟩)
      clear hp
      go_wp2_with fail
      go_round
      case rel => exact ⟨2 * k, by first | rfl | go_num, by omega, by omega, hp2⟩
      case measure => simp [intOf]; omega
    · have d1 : decide ((k : Int) < (n : Int) - (k : Int)) = false := decide_eq_false (by omega)
      have d2 : decide (k < n - k) = false := decide_eq_false hlt
      have hkS : Hid (k = S) := Lib.hid (by
        obtain ⟨a, ha⟩ := hp.out
        obtain ⟨b, hb⟩ := hS.out
        rw [ha, hb]
        exact pow_between (n := n) (by omega) (by omega) (by omega) (by omega))
      clear hp hS
      go_wp2_with fail
      go_ret
      exact ⟨by rw [hkS.out]; rfl, rfl⟩

set_option maxRecDepth 100000 in
set_option maxHeartbeats 2000000 in
theorem rroot_any : ∀ (N : Nat) (ss : List ByteArray) (p : Option Addr) (cap : Nat) (w : World), ss.length ≤ N → ss.length ≤ 1000 → ss.length ≤ cap → cap ≤ 9223372036854775807 → StrsAt w p ss → SmallR ss → Keyed w →
    Calls Tryd.prog 18 #[.slice p ss.length cap] w fun e w' => e = .returned (.string (rootZ ss)) ∧ Below w.heap.size w w' := by
  intro N
  induction N with
  | zero =>
    intro ss p cap w hN _ hcap hcap2 hp hs hK
    obtain rfl : ss = [] := List.eq_nil_of_length_eq_zero (by omega)
    rw [rootZ_nil]
    have hc := fun W (_hb : Below w.heap.size w W) => rSum_any ⟨#[]⟩ (by decide) W
    go_enter Tryd.func18, Tryd.ntmps18
    go_wp2_with (go_at_call 36; refine (hc _ (Below.refl _ _)).mono ?_; rintro e w' ⟨rfl, hb⟩)
    go_ret
    exact ⟨rfl, hb⟩
  | succ N ih =>
    intro ss p cap w hN h1000 hcap hcap2 hp hs hK
    by_cases h1 : ss.length = 1
    · obtain ⟨x, rfl⟩ : ∃ x, ss = [x] := List.length_eq_one_iff.1 h1
      obtain ⟨b, off, rfl, hcell⟩ := hp 0 (by simp)
      rw [rootZ_one]
      have hc := rleaf_any x w (hs x (by simp)) hK
      change w.cell? ⟨b, off, none⟩ = some (.string x) at hcell
      go_enter Tryd.func18, Tryd.ntmps18
      go_wp2_with (go_at_call 37; refine hc.mono ?_; rintro e w' ⟨rfl, hb⟩)
      go_ret
      exact ⟨rfl, hb⟩
    · by_cases h2 : 2 ≤ ss.length
      · obtain ⟨b, off, rfl⟩ := hp.some (by omega)
        have hn63 : ss.length ≤ 9223372036854775807 := by omega
        obtain ⟨k1, k2, k3⟩ := splitZ_spec h2 hn63
        have hsp := fun W => rsplit_any ss.length h2 hn63 W
        have hZ := rootZ_two h2 hn63
        have hR1 := fun W (hb : Below w.heap.size w W) => ih (ss.take (splitZ ss.length)) (some ⟨b, off, none⟩) cap W (by rw [List.length_take]; omega) (by rw [List.length_take]; omega) (by rw [List.length_take]; omega) hcap2 ((hp.below hb).take _) (hs.take _) (hK.below hb)
        have hR2 := fun W (hb : Below w.heap.size w W) => ih (ss.drop (splitZ ss.length)) (some ⟨b, off + splitZ ss.length, none⟩) (cap - splitZ ss.length) W (by rw [List.length_drop]; omega) (by rw [List.length_drop]; omega) (by rw [List.length_drop]; omega) (by omega) ((hp.below hb).drop _) (hs.drop _) (hK.below hb)
        have hND := fun W (hb : Below w.heap.size w W) => rnode_any (rootZ (ss.take (splitZ ss.length))) (rootZ (ss.drop (splitZ ss.length))) W (by rw [rootZ_size]; omega) (by rw [rootZ_size]; omega) (hK.below hb)
        rw [List.length_take, show min (splitZ ss.length) ss.length = splitZ ss.length by omega] at hR1
        rw [List.length_drop] at hR2
        rw [hZ]
        clear hZ ih hp
        generalize rootZ (ss.take (splitZ ss.length)) = A at *
        generalize rootZ (ss.drop (splitZ ss.length)) = B at *
        generalize splitZ ss.length = k at *
        generalize ss.length = n at *
        have hbd := (Below.refl w.heap.size w).drew
        have i1 : (0 : Int) ≤ (k : Int) := by omega
        have i2 : (k : Int) ≤ (cap : Int) := by omega
        have i3 : (k : Int) ≤ (n : Int) := by omega
        have i4 : (n : Int) ≤ (cap : Int) := by omega
        have d1 : ((n : Int) == 0) = false := by simp; omega
        have d2 : ((n : Int) == 1) = false := by simp; omega
        have d3 : n ≠ 0 := by omega
        have d4 : n ≠ 1 := by omega
        go_enter Tryd.func18, Tryd.ntmps18
        go_wp2_with (go_at_call 32; refine (hsp _).mono ?_; rintro e w' ⟨rfl, rfl⟩)
        go_region_held3 (fun w' => Below w.heap.size w w') (first | assumption | exact bthen (by assumption) b7)
          (first | (go_at_call 18; first | (with_reducible refine Calls.mono (hR1 _ (by assumption)) ?_; rintro e w7 ⟨rfl, b7⟩) | (with_reducible refine Calls.mono (hR2 _ (by assumption)) ?_; rintro e w7 ⟨rfl, b7⟩)) | (go_at_call 38; with_reducible refine Calls.mono (hND _ (by assumption)) ?_; rintro e w7 ⟨rfl, b7⟩))
        have hbz := (show Below w.heap.size w w7 by assumption)
        go_wp2
        go_ret
        exact ⟨rfl, hbz⟩
      · have : ss.length = 0 := by omega
        exact ih ss p cap w (by omega) h1000 hcap hcap2 hp hs hK
set_option maxRecDepth 100000 in
set_option maxHeartbeats 4000000 in
theorem rpart_any : ∀ (N : Nat) (ss : List ByteArray) (m : Nat) (whole : Bool) (p : Option Addr) (cap : Nat) (w : World), ss.length ≤ N → 1 ≤ m → m ≤ ss.length → ss.length ≤ 900 → ss.length ≤ cap → cap ≤ 9223372036854775807 → StrsAt w p ss → SmallR ss → Keyed w →
    Calls Tryd.prog 34 #[.slice p ss.length cap, .int .i64 m, .bool whole] w fun e w' => ∃ v, e = .returned v ∧ w'.ownsRow w.heap.size 9 1 v (partZ ss m whole).length (strv (partZ ss m whole)) ∧ Below w.heap.size w w' := by
  intro N
  induction N with
  | zero => intro ss m whole p cap w hN h1; omega
  | succ N ih =>
    intro ss m whole p cap w hN h1 hi h1000 hcap hcap2 hp hs hK
    by_cases hm : m = ss.length
    · rw [partZ_all hm]
      have d1 : ((m : Int) == (ss.length : Int)) = true := by simp; omega
      cases whole with
      | true =>
        go_enter Tryd.func34, Tryd.ntmps34
        go_wp2
        go_ret
        exact ⟨_, rfl, World.ownsRow_nil _ _ _ _, Below.refl _ _⟩
      | false =>
        have hR := rroot_any (ss.length) ss p cap w (Nat.le_refl _) (by omega) hcap hcap2 hp hs hK
        generalize rootZ ss = A at *
        go_enter Tryd.func34, Tryd.ntmps34
        go_wp2_with (go_at_call 18; refine hR.mono ?_; rintro e w8 ⟨rfl, b8⟩)
        go_ret
        exact ⟨_, rfl, World.ownsRow_lit w8 #[.string A] 1 b8.size (by unfold maxLen; omega) rfl, b8.alloc b8.size _⟩
    · have h2 : 2 ≤ ss.length := by omega
      obtain ⟨b, off, rfl⟩ := hp.some (by omega)
      have hn63 : ss.length ≤ 9223372036854775807 := by omega
      obtain ⟨k1, k2, k3⟩ := splitZ_spec h2 hn63
      obtain ⟨i0, hi0, hz0, hz1, hz2⟩ := info_parts infoStr
      have hsp := fun W => rsplit_any ss.length h2 hn63 W
      have hbd := (Below.refl w.heap.size w).drew
      by_cases hik : m ≤ splitZ ss.length
      · skip
        have hR := fun W (hb : Below w.heap.size w W) => rroot_any (ss.length) (ss.drop (splitZ ss.length)) (some ⟨b, off + splitZ ss.length, none⟩) (cap - splitZ ss.length) W (by rw [List.length_drop]; omega) (by rw [List.length_drop]; omega) (by rw [List.length_drop]; omega) (by omega) ((hp.below hb).drop _) (hs.drop _) (hK.below hb)
        have hP := fun W (hb : Below w.heap.size w W) => (ih (ss.take (splitZ ss.length)) m whole (some ⟨b, off, none⟩) cap W (by rw [List.length_take]; omega) h1 (by rw [List.length_take]; omega) (by rw [List.length_take]; omega) (by rw [List.length_take]; omega) hcap2 ((hp.below hb).take _) (hs.take _) (hK.below hb)).mono (R' := fun e w' => ∃ v, e = .returned v ∧ w'.ownsRow w.heap.size 9 1 v (partZ (ss.take (splitZ ss.length)) m whole).length (strv (partZ (ss.take (splitZ ss.length)) m whole)) ∧ Below W.heap.size W w') (fun e w' ⟨v, he, ho, hb'⟩ => ⟨v, he, own_base ho hb.size, hb'⟩)
        rw [List.length_take, show min (splitZ ss.length) ss.length = splitZ ss.length by omega] at hP
        rw [List.length_drop] at hR
        rw [partZ_lo hm h2 hn63 hik]
        have hxl : (partZ (ss.take (splitZ ss.length)) m whole).length ≤ 1000 := by
          have := partZ_len ss.length (ss.take (splitZ ss.length)) m whole (by rw [List.length_take]; omega); omega
        clear ih hp
        generalize rootZ (ss.drop (splitZ ss.length)) = A at *
        generalize partZ (ss.take (splitZ ss.length)) m whole = X at *
        generalize splitZ ss.length = k at *
        generalize ss.length = n at *
        have i1 : (0 : Int) ≤ (k : Int) := by omega
        have i2 : (k : Int) ≤ (cap : Int) := by omega
        have i3 : (k : Int) ≤ (n : Int) := by omega
        have i4 : (n : Int) ≤ (cap : Int) := by omega
        have d2 : ((m : Int) == (n : Int)) = false := by simp; omega
        go_enter Tryd.func34, Tryd.ntmps34
        go_wp2_with (go_at_call 32; refine (hsp _).mono ?_; rintro e w' ⟨rfl, rfl⟩)
        go_region_held3 (fun w' => Below w.heap.size w w') (first | assumption | exact bthen (by assumption) b8 | exact bthen (by assumption) b7 | exact (show Below w.heap.size w w8 by assumption).alloc (show Below w.heap.size w w8 by assumption).size _ | exact keepAppend (by assumption) hgrow9 ((own_below own7 b8).alloc _) | fail)
          (first | (go_at_call 34; with_reducible refine Calls.mono (hP _ (by assumption)) ?_; rintro e w7 ⟨v7, rfl, own7, b7⟩) | (go_at_call 18; with_reducible refine Calls.mono (hR _ (by assumption)) ?_; rintro e w8 ⟨rfl, b8⟩) | (refine step_append_lies _ (by rfl) _ _ 22 (by rfl) w.heap.size 9 i0 (.string ⟨#[]⟩) 1 16 Tryd.underlying22 hi0 hz0 hz1 hz2 rfl (by omega) v7 X.length (strv X) (by rfl) ((own_below own7 b8).alloc _) ⟨w8.heap.size, 0, none⟩ 1 1 [.string A] (by rfl) (by rfl) (Arr.news4 _ _ _) (by simp [Value.oneCell']) (by omega) (by unfold maxLen; omega) (by omega) (Below.size (by assumption)) (w8.heap.size + 1) (by simp) ?_; intro gg cap9 w9 hown9 hgrow9 hat9 hlt9) | fail)
        have hbz := (show Below w.heap.size w w9 by assumption)
        go_wp2
        go_ret
        exact ⟨_, rfl, by simpa [strv] using hown9, hbz⟩
      · skip
        have hR := fun W (hb : Below w.heap.size w W) => rroot_any (ss.length) (ss.take (splitZ ss.length)) (some ⟨b, off, none⟩) cap W (by rw [List.length_take]; omega) (by rw [List.length_take]; omega) (by rw [List.length_take]; omega) hcap2 ((hp.below hb).take _) (hs.take _) (hK.below hb)
        have hP := fun W (hb : Below w.heap.size w W) => (ih (ss.drop (splitZ ss.length)) (m - splitZ ss.length) false (some ⟨b, off + splitZ ss.length, none⟩) (cap - splitZ ss.length) W (by rw [List.length_drop]; omega) (by omega) (by rw [List.length_drop]; omega) (by rw [List.length_drop]; omega) (by rw [List.length_drop]; omega) (by omega) ((hp.below hb).drop _) (hs.drop _) (hK.below hb)).mono (R' := fun e w' => ∃ v, e = .returned v ∧ w'.ownsRow w.heap.size 9 1 v (partZ (ss.drop (splitZ ss.length)) (m - splitZ ss.length) false).length (strv (partZ (ss.drop (splitZ ss.length)) (m - splitZ ss.length) false)) ∧ Below W.heap.size W w') (fun e w' ⟨v, he, ho, hb'⟩ => ⟨v, he, own_base ho hb.size, hb'⟩)
        rw [List.length_drop] at hP
        rw [List.length_take, show min (splitZ ss.length) ss.length = splitZ ss.length by omega] at hR
        rw [partZ_hi hm h2 hn63 hik]
        have hxl : (partZ (ss.drop (splitZ ss.length)) (m - splitZ ss.length) false).length ≤ 1000 := by
          have := partZ_len ss.length (ss.drop (splitZ ss.length)) (m - splitZ ss.length) false (by rw [List.length_drop]; omega); omega
        clear ih hp
        generalize rootZ (ss.take (splitZ ss.length)) = A at *
        generalize partZ (ss.drop (splitZ ss.length)) (m - splitZ ss.length) false = X at *
        generalize splitZ ss.length = k at *
        generalize ss.length = n at *
        have i1 : (0 : Int) ≤ (k : Int) := by omega
        have i2 : (k : Int) ≤ (cap : Int) := by omega
        have i3 : (k : Int) ≤ (n : Int) := by omega
        have i4 : (n : Int) ≤ (cap : Int) := by omega
        have d2 : ((m : Int) == (n : Int)) = false := by simp; omega
        have d5 : (m : Int) - (k : Int) = ((m - k : Nat) : Int) := by omega
        have d7 : cap ≠ k := by omega
        have d6 : IntKind.i64.wrap ((m - k : Nat) : Int) = ((m - k : Nat) : Int) := by rw [IntKind.wrap_i64]; omega
        go_enter Tryd.func34, Tryd.ntmps34
        go_wp2_with (go_at_call 32; refine (hsp _).mono ?_; rintro e w' ⟨rfl, rfl⟩)
        go_region_held3 (fun w' => Below w.heap.size w w') (first | assumption | exact bthen (by assumption) b8 | exact bthen (by assumption) b7 | exact (show Below w.heap.size w w8 by assumption).alloc (show Below w.heap.size w w8 by assumption).size _ | exact keepAppend (by assumption) hgrow9 ((own_below own7 b8).alloc _) | fail)
          (first | (go_at_call 34; with_reducible refine Calls.mono (hP _ (by assumption)) ?_; rintro e w7 ⟨v7, rfl, own7, b7⟩) | (go_at_call 18; with_reducible refine Calls.mono (hR _ (by assumption)) ?_; rintro e w8 ⟨rfl, b8⟩) | (refine step_append_lies _ (by rfl) _ _ 22 (by rfl) w.heap.size 9 i0 (.string ⟨#[]⟩) 1 16 Tryd.underlying22 hi0 hz0 hz1 hz2 rfl (by omega) v7 X.length (strv X) (by rfl) ((own_below own7 b8).alloc _) ⟨w8.heap.size, 0, none⟩ 1 1 [.string A] (by rfl) (by rfl) (Arr.news4 _ _ _) (by simp [Value.oneCell']) (by omega) (by unfold maxLen; omega) (by omega) (Below.size (by assumption)) (w8.heap.size + 1) (by simp) ?_; intro gg cap9 w9 hown9 hgrow9 hat9 hlt9) | fail)
        have hbz := (show Below w.heap.size w w9 by assumption)
        go_wp2
        go_ret
        exact ⟨_, rfl, by simpa [strv] using hown9, hbz⟩

set_option maxRecDepth 100000 in
set_option maxHeartbeats 4000000 in
theorem rpath_any : ∀ (N : Nat) (ss : List ByteArray) (i : Nat) (p : Option Addr) (cap : Nat) (w : World), ss.length ≤ N → 1 ≤ ss.length → i < ss.length → ss.length ≤ 1000 → ss.length ≤ cap → cap ≤ 9223372036854775807 → StrsAt w p ss → SmallR ss → Keyed w →
    Calls Tryd.prog 13 #[.slice p ss.length cap, .int .i64 i] w fun e w' => ∃ v, e = .returned (.tuple #[v, .int .i64 0]) ∧ w'.ownsRow w.heap.size 9 1 v (pathZ ss i).length (strv (pathZ ss i)) ∧ Below w.heap.size w w' := by
  intro N
  induction N with
  | zero => intro ss i p cap w hN h1; omega
  | succ N ih =>
    intro ss i p cap w hN h1 hi h1000 hcap hcap2 hp hs hK
    have g1 : decide ((i : Int) < 0) = false := by simp
    have g2 : decide ((ss.length : Int) ≤ (i : Int)) = false := by simp; omega
    by_cases h2 : ss.length = 1
    · rw [pathZ_one h2]
      have d1 : ((ss.length : Int) == 1) = true := by simp; omega
      go_enter Tryd.func13, Tryd.ntmps13
      go_wp2_with fail
      go_ret2
      exact ⟨_, rfl, World.ownsRow_nil _ _ _ _, Below.refl _ _⟩
    · replace h2 : 2 ≤ ss.length := by omega
      obtain ⟨b, off, rfl⟩ := hp.some (by omega)
      have hn63 : ss.length ≤ 9223372036854775807 := by omega
      obtain ⟨k1, k2, k3⟩ := splitZ_spec h2 hn63
      obtain ⟨i0, hi0, hz0, hz1, hz2⟩ := info_parts infoStr
      have hsp := fun W => rsplit_any ss.length h2 hn63 W
      by_cases hik : i < splitZ ss.length
      · have hR := fun W (hb : Below w.heap.size w W) => rroot_any (ss.length) (ss.drop (splitZ ss.length)) (some ⟨b, off + splitZ ss.length, none⟩) (cap - splitZ ss.length) W (by rw [List.length_drop]; omega) (by rw [List.length_drop]; omega) (by rw [List.length_drop]; omega) (by omega) ((hp.below hb).drop _) (hs.drop _) (hK.below hb)
        have hP := ih (ss.take (splitZ ss.length)) i (some ⟨b, off, none⟩) cap w (by rw [List.length_take]; omega) (by rw [List.length_take]; omega) (by rw [List.length_take]; omega) (by rw [List.length_take]; omega) (by rw [List.length_take]; omega) hcap2 (hp.take _) (hs.take _) hK
        rw [List.length_take, show min (splitZ ss.length) ss.length = splitZ ss.length by omega] at hP
        rw [List.length_drop] at hR
        rw [pathZ_lo h2 hn63 hik]
        have hxl : (pathZ (ss.take (splitZ ss.length)) i).length ≤ 1000 := by
          have := pathZ_len ss.length (ss.take (splitZ ss.length)) i (by rw [List.length_take]; omega); omega
        clear ih hp
        generalize rootZ (ss.drop (splitZ ss.length)) = A at *
        generalize pathZ (ss.take (splitZ ss.length)) i = X at *
        generalize splitZ ss.length = k at *
        generalize ss.length = n at *
        have i1 : (0 : Int) ≤ (k : Int) := by omega
        have i2 : (k : Int) ≤ (cap : Int) := by omega
        have i3 : (k : Int) ≤ (n : Int) := by omega
        have i4 : (n : Int) ≤ (cap : Int) := by omega
        have d2 : ((n : Int) == 1) = false := by simp; omega
        have d4 : n ≠ 1 := by omega
        go_enter Tryd.func13, Tryd.ntmps13
        go_wp2_with (go_at_call 32; refine (hsp _).mono ?_; rintro e w' ⟨rfl, rfl⟩)
        refine hP.mono ?_
        rintro e w7 ⟨v7, rfl, own7, b7⟩
        go_wp2_with fail
        refine (hR _ b7).mono ?_
        rintro e w8 ⟨rfl, b8⟩
        have b78 := bthen b7 b8
        have hz8 := b78.size
        have own8 := own_below own7 b8
        go_wp2_with (at_builtin; refine wpList_append_own _ rfl _ _ 22 rfl w.heap.size 9 i0 (.string ⟨#[]⟩) 1 16 Tryd.underlying22 hi0 hz0 hz1 hz2 rfl (by decide) v7 X.length (strv X) rfl (own8.alloc _) ⟨w8.heap.size, 0, none⟩ 1 1 [.string A] rfl rfl (Arr.news4 _ _ _) (by simp [Value.oneCell']) (by unfold maxLen; omega) (by omega) (by simp; omega) ?_; intro v9 w9 hown9 hgrow9 _)
        go_ret2
        exact ⟨_, rfl, by simpa [strv] using hown9, keepAppend (b78.alloc b78.size _) hgrow9 (own8.alloc _)⟩
      · have hR := fun W (hb : Below w.heap.size w W) => rroot_any (ss.length) (ss.take (splitZ ss.length)) (some ⟨b, off, none⟩) cap W (by rw [List.length_take]; omega) (by rw [List.length_take]; omega) (by rw [List.length_take]; omega) hcap2 ((hp.below hb).take _) (hs.take _) (hK.below hb)
        have hP := ih (ss.drop (splitZ ss.length)) (i - splitZ ss.length) (some ⟨b, off + splitZ ss.length, none⟩) (cap - splitZ ss.length) w (by rw [List.length_drop]; omega) (by rw [List.length_drop]; omega) (by rw [List.length_drop]; omega) (by rw [List.length_drop]; omega) (by rw [List.length_drop]; omega) (by omega) (hp.drop _) (hs.drop _) hK
        rw [List.length_drop] at hP
        rw [List.length_take, show min (splitZ ss.length) ss.length = splitZ ss.length by omega] at hR
        rw [pathZ_hi h2 hn63 hik]
        have hxl : (pathZ (ss.drop (splitZ ss.length)) (i - splitZ ss.length)).length ≤ 1000 := by
          have := pathZ_len ss.length (ss.drop (splitZ ss.length)) (i - splitZ ss.length) (by rw [List.length_drop]; omega); omega
        clear ih hp
        generalize rootZ (ss.take (splitZ ss.length)) = A at *
        generalize pathZ (ss.drop (splitZ ss.length)) (i - splitZ ss.length) = X at *
        generalize splitZ ss.length = k at *
        generalize ss.length = n at *
        have i1 : (0 : Int) ≤ (k : Int) := by omega
        have i2 : (k : Int) ≤ (cap : Int) := by omega
        have i3 : (k : Int) ≤ (n : Int) := by omega
        have i4 : (n : Int) ≤ (cap : Int) := by omega
        have d2 : ((n : Int) == 1) = false := by simp; omega
        have d4 : n ≠ 1 := by omega
        have d5 : (i : Int) - (k : Int) = ((i - k : Nat) : Int) := by omega
        have d7 : cap ≠ k := by omega
        have d6 : IntKind.i64.wrap ((i - k : Nat) : Int) = ((i - k : Nat) : Int) := by rw [IntKind.wrap_i64]; omega
        go_enter Tryd.func13, Tryd.ntmps13
        go_wp2_with (go_at_call 32; refine (hsp _).mono ?_; rintro e w' ⟨rfl, rfl⟩)
        refine hP.mono ?_
        rintro e w7 ⟨v7, rfl, own7, b7⟩
        go_wp2_with fail
        refine (hR _ b7).mono ?_
        rintro e w8 ⟨rfl, b8⟩
        have b78 := bthen b7 b8
        have hz8 := b78.size
        have own8 := own_below own7 b8
        go_wp2_with (at_builtin; refine wpList_append_own _ rfl _ _ 22 rfl w.heap.size 9 i0 (.string ⟨#[]⟩) 1 16 Tryd.underlying22 hi0 hz0 hz1 hz2 rfl (by decide) v7 X.length (strv X) rfl (own8.alloc _) ⟨w8.heap.size, 0, none⟩ 1 1 [.string A] rfl rfl (Arr.news4 _ _ _) (by simp [Value.oneCell']) (by unfold maxLen; omega) (by omega) (by simp; omega) ?_; intro v9 w9 hown9 hgrow9 _)
        go_ret2
        exact ⟨_, rfl, by simpa [strv] using hown9, keepAppend (b78.alloc b78.size _) hgrow9 (own8.alloc _)⟩

set_option maxHeartbeats 1000000 in
theorem rproof_out (n : Nat) (i : Int) (p : Option Addr) (cap : Nat) (w : World) (hi : i < 0 ∨ (n : Int) ≤ i) (h1 : -9223372036854775808 ≤ i) (h2 : i ≤ 9223372036854775807) (hn : n ≤ 9223372036854775807) :
    Calls Tryd.prog 13 #[.slice p n cap, .int .i64 i] w fun e w' => e = .returned (.tuple #[.slice none 0 0, .int .i64 2]) ∧ w = w' := by
  by_cases h : i < 0
  · have d1 : decide (i < 0) = true := by simp; omega
    go_enter Tryd.func13, Tryd.ntmps13
    go_wp2
    go_ret2
    exact ⟨rfl, rfl⟩
  · have d1 : decide (i < 0) = false := by simp; omega
    have d2 : decide ((n : Int) ≤ i) = true := by simp; omega
    go_enter Tryd.func13, Tryd.ntmps13
    go_wp2
    go_ret2
    exact ⟨rfl, rfl⟩

set_option maxHeartbeats 1000000 in
theorem rext_in (ss : List ByteArray) (m : Nat) (p : Option Addr) (cap : Nat) (w : World) (h1 : 1 ≤ m) (hi : m ≤ ss.length) (h900 : ss.length ≤ 900) (hcap : ss.length ≤ cap) (hcap2 : cap ≤ 9223372036854775807) (hp : StrsAt w p ss) (hs : SmallR ss) (hK : Keyed w) :
    Calls Tryd.prog 15 #[.slice p ss.length cap, .int .i64 m] w fun e w' => ∃ v, e = .returned (.tuple #[v, .int .i64 0]) ∧ w'.ownsRow w.heap.size 9 1 v (partZ ss m true).length (strv (partZ ss m true)) ∧ Below w.heap.size w w' := by
  have hc := rpart_any ss.length ss m true p cap w (Nat.le_refl _) h1 hi h900 hcap hcap2 hp hs hK
  generalize partZ ss m true = X at *
  have d1 : decide ((m : Int) < 0) = false := by simp
  have d2 : decide ((ss.length : Int) < (m : Int)) = false := by simp; omega
  have d3 : ((m : Int) == 0) = false := by simp; omega
  have d4 : m ≠ 0 := by omega
  go_enter Tryd.func15, Tryd.ntmps15
  go_wp2_with (go_at_call 34; refine hc.mono ?_; rintro e w7 ⟨v7, rfl, own7, b7⟩)
  go_ret2
  exact ⟨_, rfl, own7, b7⟩

set_option maxHeartbeats 1000000 in
theorem rext_zero (n : Nat) (p : Option Addr) (cap : Nat) (w : World) (hn : n ≤ 9223372036854775807) :
    Calls Tryd.prog 15 #[.slice p n cap, .int .i64 0] w fun e w' => e = .returned (.tuple #[.slice none 0 0, .int .i64 0]) ∧ w = w' := by
  have d2 : decide ((n : Int) < 0) = false := by simp
  go_enter Tryd.func15, Tryd.ntmps15
  go_wp2
  go_ret2
  exact ⟨rfl, rfl⟩

set_option maxHeartbeats 1000000 in
theorem rext_out (n : Nat) (m : Int) (p : Option Addr) (cap : Nat) (w : World) (hi : m < 0 ∨ (n : Int) < m) (h1 : -9223372036854775808 ≤ m) (h2 : m ≤ 9223372036854775807) (hn : n ≤ 9223372036854775807) :
    Calls Tryd.prog 15 #[.slice p n cap, .int .i64 m] w fun e w' => e = .returned (.tuple #[.slice none 0 0, .int .i64 2]) ∧ w = w' := by
  by_cases h : m < 0
  · have d1 : decide (m < 0) = true := by simp; omega
    go_enter Tryd.func15, Tryd.ntmps15
    go_wp2
    go_ret2
    exact ⟨rfl, rfl⟩
  · have d1 : decide (m < 0) = false := by simp; omega
    have d2 : decide ((n : Int) < m) = true := by simp; omega
    go_enter Tryd.func15, Tryd.ntmps15
    go_wp2
    go_ret2
    exact ⟨rfl, rfl⟩
end Go.Proofs.YtfgojhhphknjkaaDoor
