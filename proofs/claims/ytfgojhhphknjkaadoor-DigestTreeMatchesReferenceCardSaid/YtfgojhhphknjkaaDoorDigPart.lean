/- Extension's parts. -/
import Derived.Test.YtfgojhhphknjkaaDoorDigPath
namespace Go.Proofs.YtfgojhhphknjkaaDoor
open Go.RowKit

theorem partZ_all {l : List ByteArray} {m : Nat} {whole : Bool} (h : m = l.length) : partZ l m whole = if whole then [] else [rootZ l] := by
  rw [partZ, if_pos h]
theorem partZ_lo {l : List ByteArray} {m : Nat} {whole : Bool} (hm : m ≠ l.length) (h : 2 ≤ l.length) (h2 : l.length ≤ 9223372036854775807) (hi : m ≤ splitZ l.length) : partZ l m whole = partZ (l.take (splitZ l.length)) m whole ++ [rootZ (l.drop (splitZ l.length))] := by
  rw [partZ, if_neg hm, dif_pos ⟨h, h2⟩, if_pos hi]
theorem partZ_hi {l : List ByteArray} {m : Nat} {whole : Bool} (hm : m ≠ l.length) (h : 2 ≤ l.length) (h2 : l.length ≤ 9223372036854775807) (hi : ¬ m ≤ splitZ l.length) : partZ l m whole = partZ (l.drop (splitZ l.length)) (m - splitZ l.length) false ++ [rootZ (l.take (splitZ l.length))] := by
  rw [partZ, if_neg hm, dif_pos ⟨h, h2⟩, if_neg hi]

theorem partZ_len0 : ∀ (N : Nat) (l : List ByteArray) (m : Nat) (whole : Bool), l.length ≤ N → (partZ l m whole).length ≤ N + 1 := by
  intro N
  induction N with
  | zero =>
    intro l m whole h
    rw [partZ]
    split
    · split <;> simp
    · rw [dif_neg (by omega)]; simp
  | succ N ih =>
    intro l m whole h
    rw [partZ]
    split
    · split <;> simp
    · by_cases h2 : 2 ≤ l.length ∧ l.length ≤ 9223372036854775807
      · have hs := splitZ_spec h2.1 h2.2
        rw [dif_pos h2]
        split
        · rw [List.length_append, List.length_singleton]
          have := ih (l.take (splitZ l.length)) m whole (by rw [List.length_take]; omega); omega
        · rw [List.length_append, List.length_singleton]
          have := ih (l.drop (splitZ l.length)) (m - splitZ l.length) false (by rw [List.length_drop]; omega); omega
      · rw [dif_neg h2]; simp
theorem partZ_len (N : Nat) (l : List ByteArray) (m : Nat) (whole : Bool) (h : l.length ≤ N) : (partZ l m whole).length ≤ N + 1 := partZ_len0 N l m whole h

set_option maxRecDepth 100000 in
set_option maxHeartbeats 4000000 in
theorem part_any : ∀ (N : Nat) (ss : List ByteArray) (m : Nat) (whole : Bool) (p : Option Addr) (cap : Nat) (w : World), ss.length ≤ N → 1 ≤ m → m ≤ ss.length → ss.length ≤ 900 → ss.length ≤ cap → cap ≤ 9223372036854775807 → StrsAt w p ss → Small ss → Keyed w →
    Calls Tryd.prog 33 #[.slice p ss.length cap, .int .i64 m, .bool whole] w fun e w' => ∃ v, e = .returned v ∧ w'.ownsRow w.heap.size 9 1 v (partZ ss m whole).length (strv (partZ ss m whole)) ∧ Below w.heap.size w w' := by
  intro N
  induction N with
  | zero => intro ss m whole p cap w hN h1; omega
  | succ N ih =>
    intro ss m whole p cap w hN h1 hi h1000 hcap hcap2 hp hs hK
    by_cases hm : m = ss.length
    · rw [partZ_all hm]
      have d1 : ((m : Int) == (ss.length : Int)) = true := by simp; omega
      cases whole with
      | true =>
        go_enter Tryd.func33, Tryd.ntmps33
        go_wp2
        go_ret
        exact ⟨_, rfl, World.ownsRow_nil _ _ _ _, Below.refl _ _⟩
      | false =>
        have hR := root_any (ss.length) ss p cap w (Nat.le_refl _) (by omega) hcap hcap2 hp hs hK
        generalize rootZ ss = A at *
        go_enter Tryd.func33, Tryd.ntmps33
        go_wp2_with (go_at_call 17; refine hR.mono ?_; rintro e w8 ⟨rfl, b8⟩)
        go_ret
        exact ⟨_, rfl, World.ownsRow_lit w8 #[.string A] 1 b8.size (by unfold maxLen; omega) rfl, b8.alloc b8.size _⟩
    · have h2 : 2 ≤ ss.length := by omega
      obtain ⟨b, off, rfl⟩ := hp.some (by omega)
      have hn63 : ss.length ≤ 9223372036854775807 := by omega
      obtain ⟨k1, k2, k3⟩ := splitZ_spec h2 hn63
      obtain ⟨i0, hi0, hz0, hz1, hz2⟩ := info_parts infoStr
      have hsp := fun W => split_any ss.length h2 hn63 W
      have hbd := (Below.refl w.heap.size w).drew
      by_cases hik : m ≤ splitZ ss.length
      · skip
        have hR := fun W (hb : Below w.heap.size w W) => root_any (ss.length) (ss.drop (splitZ ss.length)) (some ⟨b, off + splitZ ss.length, none⟩) (cap - splitZ ss.length) W (by rw [List.length_drop]; omega) (by rw [List.length_drop]; omega) (by rw [List.length_drop]; omega) (by omega) ((hp.below hb).drop _) (hs.drop _) (hK.below hb)
        have hP := fun W (hb : Below w.heap.size w W) => (ih (ss.take (splitZ ss.length)) m whole (some ⟨b, off, none⟩) cap W (by rw [List.length_take]; omega) h1 (by rw [List.length_take]; omega) (by rw [List.length_take]; omega) (by rw [List.length_take]; omega) hcap2 ((hp.below hb).take _) (hs.take _) (hK.below hb)).mono (R' := fun e w' => ∃ v, e = .returned v ∧ w'.ownsRow w.heap.size 9 1 v (partZ (ss.take (splitZ ss.length)) m whole).length (strv (partZ (ss.take (splitZ ss.length)) m whole)) ∧ Below W.heap.size W w') (fun e w' ⟨v, he, ho, hb'⟩ => ⟨v, he, own_base ho hb.size, hb'⟩)
        rw [List.length_take, show min (splitZ ss.length) ss.length = splitZ ss.length by omega] at hP
        rw [List.length_drop] at hR
        rw [partZ_lo hm h2 hn63 hik]
        have hxl : (partZ (ss.take (splitZ ss.length)) m whole).length ≤ 1000 := by
          have := partZ_len ss.length (ss.take (splitZ ss.length)) m whole (by rw [List.length_take]; omega); omega
        clear ih hp
        generalize rootZ (ss.drop (splitZ ss.length)) = A at *
        generalize partZ (ss.take (splitZ ss.length)) m whole = X at *
        generalize splitZ ss.length = k at *
        generalize ss.length = n at *
        have i1 : (0 : Int) ≤ (k : Int) := by omega
        have i2 : (k : Int) ≤ (cap : Int) := by omega
        have i3 : (k : Int) ≤ (n : Int) := by omega
        have i4 : (n : Int) ≤ (cap : Int) := by omega
        have d2 : ((m : Int) == (n : Int)) = false := by simp; omega
        go_enter Tryd.func33, Tryd.ntmps33
        go_wp2_with (go_at_call 35; refine (hsp _).mono ?_; rintro e w' ⟨rfl, rfl⟩)
        go_region_held3 (fun w' => Below w.heap.size w w') (first | assumption | exact bthen (by assumption) b8 | exact bthen (by assumption) b7 | exact (show Below w.heap.size w w8 by assumption).alloc (show Below w.heap.size w w8 by assumption).size _ | exact keepAppend (by assumption) hgrow9 ((own_below own7 b8).alloc _) | fail)
          (first | (go_at_call 33; with_reducible refine Calls.mono (hP _ (by assumption)) ?_; rintro e w7 ⟨v7, rfl, own7, b7⟩) | (go_at_call 17; with_reducible refine Calls.mono (hR _ (by assumption)) ?_; rintro e w8 ⟨rfl, b8⟩) | (refine step_append_lies _ (by rfl) _ _ 22 (by rfl) w.heap.size 9 i0 (.string ⟨#[]⟩) 1 16 Tryd.underlying22 hi0 hz0 hz1 hz2 rfl (by omega) v7 X.length (strv X) (by rfl) ((own_below own7 b8).alloc _) ⟨w8.heap.size, 0, none⟩ 1 1 [.string A] (by rfl) (by rfl) (Arr.news4 _ _ _) (by simp [Value.oneCell']) (by omega) (by unfold maxLen; omega) (by omega) (Below.size (by assumption)) (w8.heap.size + 1) (by simp) ?_; intro gg cap9 w9 hown9 hgrow9 hat9 hlt9) | fail)
        have hbz := (show Below w.heap.size w w9 by assumption)
        go_wp2
        go_ret
        exact ⟨_, rfl, by simpa [strv] using hown9, hbz⟩
      · skip
        have hR := fun W (hb : Below w.heap.size w W) => root_any (ss.length) (ss.take (splitZ ss.length)) (some ⟨b, off, none⟩) cap W (by rw [List.length_take]; omega) (by rw [List.length_take]; omega) (by rw [List.length_take]; omega) hcap2 ((hp.below hb).take _) (hs.take _) (hK.below hb)
        have hP := fun W (hb : Below w.heap.size w W) => (ih (ss.drop (splitZ ss.length)) (m - splitZ ss.length) false (some ⟨b, off + splitZ ss.length, none⟩) (cap - splitZ ss.length) W (by rw [List.length_drop]; omega) (by omega) (by rw [List.length_drop]; omega) (by rw [List.length_drop]; omega) (by rw [List.length_drop]; omega) (by omega) ((hp.below hb).drop _) (hs.drop _) (hK.below hb)).mono (R' := fun e w' => ∃ v, e = .returned v ∧ w'.ownsRow w.heap.size 9 1 v (partZ (ss.drop (splitZ ss.length)) (m - splitZ ss.length) false).length (strv (partZ (ss.drop (splitZ ss.length)) (m - splitZ ss.length) false)) ∧ Below W.heap.size W w') (fun e w' ⟨v, he, ho, hb'⟩ => ⟨v, he, own_base ho hb.size, hb'⟩)
        rw [List.length_drop] at hP
        rw [List.length_take, show min (splitZ ss.length) ss.length = splitZ ss.length by omega] at hR
        rw [partZ_hi hm h2 hn63 hik]
        have hxl : (partZ (ss.drop (splitZ ss.length)) (m - splitZ ss.length) false).length ≤ 1000 := by
          have := partZ_len ss.length (ss.drop (splitZ ss.length)) (m - splitZ ss.length) false (by rw [List.length_drop]; omega); omega
        clear ih hp
        generalize rootZ (ss.take (splitZ ss.length)) = A at *
        generalize partZ (ss.drop (splitZ ss.length)) (m - splitZ ss.length) false = X at *
        generalize splitZ ss.length = k at *
        generalize ss.length = n at *
        have i1 : (0 : Int) ≤ (k : Int) := by omega
        have i2 : (k : Int) ≤ (cap : Int) := by omega
        have i3 : (k : Int) ≤ (n : Int) := by omega
        have i4 : (n : Int) ≤ (cap : Int) := by omega
        have d2 : ((m : Int) == (n : Int)) = false := by simp; omega
        have d5 : (m : Int) - (k : Int) = ((m - k : Nat) : Int) := by omega
        have d7 : cap ≠ k := by omega
        have d6 : IntKind.i64.wrap ((m - k : Nat) : Int) = ((m - k : Nat) : Int) := by rw [IntKind.wrap_i64]; omega
        go_enter Tryd.func33, Tryd.ntmps33
        go_wp2_with (go_at_call 35; refine (hsp _).mono ?_; rintro e w' ⟨rfl, rfl⟩)
        go_region_held3 (fun w' => Below w.heap.size w w') (first | assumption | exact bthen (by assumption) b8 | exact bthen (by assumption) b7 | exact (show Below w.heap.size w w8 by assumption).alloc (show Below w.heap.size w w8 by assumption).size _ | exact keepAppend (by assumption) hgrow9 ((own_below own7 b8).alloc _) | fail)
          (first | (go_at_call 33; with_reducible refine Calls.mono (hP _ (by assumption)) ?_; rintro e w7 ⟨v7, rfl, own7, b7⟩) | (go_at_call 17; with_reducible refine Calls.mono (hR _ (by assumption)) ?_; rintro e w8 ⟨rfl, b8⟩) | (refine step_append_lies _ (by rfl) _ _ 22 (by rfl) w.heap.size 9 i0 (.string ⟨#[]⟩) 1 16 Tryd.underlying22 hi0 hz0 hz1 hz2 rfl (by omega) v7 X.length (strv X) (by rfl) ((own_below own7 b8).alloc _) ⟨w8.heap.size, 0, none⟩ 1 1 [.string A] (by rfl) (by rfl) (Arr.news4 _ _ _) (by simp [Value.oneCell']) (by omega) (by unfold maxLen; omega) (by omega) (Below.size (by assumption)) (w8.heap.size + 1) (by simp) ?_; intro gg cap9 w9 hown9 hgrow9 hat9 hlt9) | fail)
        have hbz := (show Below w.heap.size w w9 by assumption)
        go_wp2
        go_ret
        exact ⟨_, rfl, by simpa [strv] using hown9, hbz⟩
end Go.Proofs.YtfgojhhphknjkaaDoor
