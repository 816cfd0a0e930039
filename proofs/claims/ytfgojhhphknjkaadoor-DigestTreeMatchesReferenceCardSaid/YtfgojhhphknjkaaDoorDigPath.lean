/- Proof and Extension. -/
import Derived.Test.YtfgojhhphknjkaaDoorDigTree
import Derived.Deep.AppendLies
import Derived.StillTactics
import Derived.OwnWalk
namespace Go.Proofs.YtfgojhhphknjkaaDoor
open Go.RowKit

theorem own_below {W W' : World} {base : Nat} {e : TypeId} {size : Nat} {v : Value} {n : Nat} {xs : List Value} (h : W.ownsRow base e size v n xs) (hb : Below W.heap.size W W') : W'.ownsRow base e size v n xs := by
  obtain ⟨h1, h2⟩ := h
  refine ⟨h1, ?_⟩
  rcases h2 with h2 | ⟨g, cap, cur, e1, e2, e3, e4⟩
  · exact .inl h2
  · exact .inr ⟨g, cap, cur, e1, e2, (hb.block g (Array.getElem?_eq_some_iff.1 e3).1).trans e3, e4⟩

theorem own_base {W : World} {base base' : Nat} {e : TypeId} {size : Nat} {v : Value} {n : Nat} {xs : List Value} (h : W.ownsRow base e size v n xs) (hb : base' ≤ base) : W.ownsRow base' e size v n xs := by
  obtain ⟨h1, h2⟩ := h
  refine ⟨h1, ?_⟩
  rcases h2 with h2 | ⟨g, cap, cur, e1, e2, e3⟩
  · exact .inl h2
  · exact .inr ⟨g, cap, cur, e1, Nat.le_trans hb e2, e3⟩

theorem keepAppend {w w8 w9 : World} {e : TypeId} {size : Nat} {v : Value} {n : Nat} {xs : List Value} (h : Below w.heap.size w w8) (hg : w8.grownBy w9 v.ownBlock) (own : w8.ownsRow w.heap.size e size v n xs) : Below w.heap.size w w9 :=
  h.grown hg h.size (own_le own)

theorem pathZ_lo {l : List ByteArray} {i : Nat} (h : 2 ≤ l.length) (h2 : l.length ≤ 9223372036854775807) (hi : i < splitZ l.length) : pathZ l i = pathZ (l.take (splitZ l.length)) i ++ [rootZ (l.drop (splitZ l.length))] := by
  rw [pathZ, dif_pos ⟨h, h2⟩, if_pos hi]
theorem pathZ_hi {l : List ByteArray} {i : Nat} (h : 2 ≤ l.length) (h2 : l.length ≤ 9223372036854775807) (hi : ¬ i < splitZ l.length) : pathZ l i = pathZ (l.drop (splitZ l.length)) (i - splitZ l.length) ++ [rootZ (l.take (splitZ l.length))] := by
  rw [pathZ, dif_pos ⟨h, h2⟩, if_neg hi]
theorem pathZ_one {l : List ByteArray} {i : Nat} (h : l.length = 1) : pathZ l i = [] := by
  rw [pathZ, dif_neg (by omega)]

theorem pathZ_len : ∀ (N : Nat) (l : List ByteArray) (i : Nat), l.length ≤ N → (pathZ l i).length ≤ N := by
  intro N
  induction N with
  | zero => intro l i h; rw [pathZ, dif_neg (by omega)]; simp
  | succ N ih =>
    intro l i h
    by_cases h2 : 2 ≤ l.length ∧ l.length ≤ 9223372036854775807
    · have hs := splitZ_spec h2.1 h2.2
      rw [pathZ, dif_pos h2]
      split
      · rw [List.length_append, List.length_singleton]
        have := ih (l.take (splitZ l.length)) i (by rw [List.length_take]; omega); omega
      · rw [List.length_append, List.length_singleton]
        have := ih (l.drop (splitZ l.length)) (i - splitZ l.length) (by rw [List.length_drop]; omega); omega
    · rw [pathZ, dif_neg h2]; simp

set_option maxRecDepth 100000 in
set_option maxHeartbeats 4000000 in
theorem path_any : ∀ (N : Nat) (ss : List ByteArray) (i : Nat) (p : Option Addr) (cap : Nat) (w : World), ss.length ≤ N → 1 ≤ ss.length → i < ss.length → ss.length ≤ 1000 → ss.length ≤ cap → cap ≤ 9223372036854775807 → StrsAt w p ss → Small ss → Keyed w →
    Calls Tryd.prog 31 #[.slice p ss.length cap, .int .i64 i] w fun e w' => ∃ v, e = .returned v ∧ w'.ownsRow w.heap.size 9 1 v (pathZ ss i).length (strv (pathZ ss i)) ∧ Below w.heap.size w w' := by
  intro N
  induction N with
  | zero => intro ss i p cap w hN h1; omega
  | succ N ih =>
    intro ss i p cap w hN h1 hi h1000 hcap hcap2 hp hs hK
    by_cases h2 : ss.length = 1
    · rw [pathZ_one h2]
      have d1 : ((ss.length : Int) == 1) = true := by simp; omega
      go_enter Tryd.func31, Tryd.ntmps31
      go_wp2
      go_ret
      exact ⟨_, rfl, World.ownsRow_nil _ _ _ _, Below.refl _ _⟩
    · replace h2 : 2 ≤ ss.length := by omega
      obtain ⟨b, off, rfl⟩ := hp.some (by omega)
      have hn63 : ss.length ≤ 9223372036854775807 := by omega
      obtain ⟨k1, k2, k3⟩ := splitZ_spec h2 hn63
      obtain ⟨i0, hi0, hz0, hz1, hz2⟩ := info_parts infoStr
      have hsp := fun W => split_any ss.length h2 hn63 W
      have hbd := (Below.refl w.heap.size w).drew
      by_cases hik : i < splitZ ss.length
      · skip
        have hR := fun W (hb : Below w.heap.size w W) => root_any (ss.length) (ss.drop (splitZ ss.length)) (some ⟨b, off + splitZ ss.length, none⟩) (cap - splitZ ss.length) W (by rw [List.length_drop]; omega) (by rw [List.length_drop]; omega) (by rw [List.length_drop]; omega) (by omega) ((hp.below hb).drop _) (hs.drop _) (hK.below hb)
        have hP := fun W (hb : Below w.heap.size w W) => (ih (ss.take (splitZ ss.length)) i (some ⟨b, off, none⟩) cap W (by rw [List.length_take]; omega) (by rw [List.length_take]; omega) (by rw [List.length_take]; omega) (by rw [List.length_take]; omega) (by rw [List.length_take]; omega) hcap2 ((hp.below hb).take _) (hs.take _) (hK.below hb)).mono (R' := fun e w' => ∃ v, e = .returned v ∧ w'.ownsRow w.heap.size 9 1 v (pathZ (ss.take (splitZ ss.length)) i).length (strv (pathZ (ss.take (splitZ ss.length)) i)) ∧ Below W.heap.size W w') (fun e w' ⟨v, he, ho, hb'⟩ => ⟨v, he, own_base ho hb.size, hb'⟩)
        rw [List.length_take, show min (splitZ ss.length) ss.length = splitZ ss.length by omega] at hP
        rw [List.length_drop] at hR
        rw [pathZ_lo h2 hn63 hik]
        have hxl : (pathZ (ss.take (splitZ ss.length)) i).length ≤ 1000 := by
          have := pathZ_len ss.length (ss.take (splitZ ss.length)) i (by rw [List.length_take]; omega); omega
        clear ih hp
        generalize rootZ (ss.drop (splitZ ss.length)) = A at *
        generalize pathZ (ss.take (splitZ ss.length)) i = X at *
        generalize splitZ ss.length = k at *
        generalize ss.length = n at *
        have i1 : (0 : Int) ≤ (k : Int) := by omega
        have i2 : (k : Int) ≤ (cap : Int) := by omega
        have i3 : (k : Int) ≤ (n : Int) := by omega
        have i4 : (n : Int) ≤ (cap : Int) := by omega
        have d2 : ((n : Int) == 1) = false := by simp; omega
        have d4 : n ≠ 1 := by omega
        go_enter Tryd.func31, Tryd.ntmps31
        go_wp2_with (go_at_call 35; refine (hsp _).mono ?_; rintro e w' ⟨rfl, rfl⟩)
        go_region_held3 (fun w' => Below w.heap.size w w') (first | assumption | exact bthen (by assumption) b8 | exact bthen (by assumption) b7 | exact (show Below w.heap.size w w8 by assumption).alloc (show Below w.heap.size w w8 by assumption).size _ | exact keepAppend (by assumption) hgrow9 ((own_below own7 b8).alloc _) | fail)
          (first | (go_at_call 31; with_reducible refine Calls.mono (hP _ (by assumption)) ?_; rintro e w7 ⟨v7, rfl, own7, b7⟩) | (go_at_call 17; with_reducible refine Calls.mono (hR _ (by assumption)) ?_; rintro e w8 ⟨rfl, b8⟩) | (refine step_append_lies _ (by rfl) _ _ 22 (by rfl) w.heap.size 9 i0 (.string ⟨#[]⟩) 1 16 Tryd.underlying22 hi0 hz0 hz1 hz2 rfl (by omega) v7 X.length (strv X) (by rfl) ((own_below own7 b8).alloc _) ⟨w8.heap.size, 0, none⟩ 1 1 [.string A] (by rfl) (by rfl) (Arr.news4 _ _ _) (by simp [Value.oneCell']) (by omega) (by unfold maxLen; omega) (by omega) (Below.size (by assumption)) (w8.heap.size + 1) (by simp) ?_; intro gg cap9 w9 hown9 hgrow9 hat9 hlt9) | fail)
        have hbz := (show Below w.heap.size w w9 by assumption)
        go_wp2
        go_ret
        exact ⟨_, rfl, by simpa [strv] using hown9, hbz⟩
      · skip
        have hR := fun W (hb : Below w.heap.size w W) => root_any (ss.length) (ss.take (splitZ ss.length)) (some ⟨b, off, none⟩) cap W (by rw [List.length_take]; omega) (by rw [List.length_take]; omega) (by rw [List.length_take]; omega) hcap2 ((hp.below hb).take _) (hs.take _) (hK.below hb)
        have hP := fun W (hb : Below w.heap.size w W) => (ih (ss.drop (splitZ ss.length)) (i - splitZ ss.length) (some ⟨b, off + splitZ ss.length, none⟩) (cap - splitZ ss.length) W (by rw [List.length_drop]; omega) (by rw [List.length_drop]; omega) (by rw [List.length_drop]; omega) (by rw [List.length_drop]; omega) (by rw [List.length_drop]; omega) (by omega) ((hp.below hb).drop _) (hs.drop _) (hK.below hb)).mono (R' := fun e w' => ∃ v, e = .returned v ∧ w'.ownsRow w.heap.size 9 1 v (pathZ (ss.drop (splitZ ss.length)) (i - splitZ ss.length)).length (strv (pathZ (ss.drop (splitZ ss.length)) (i - splitZ ss.length))) ∧ Below W.heap.size W w') (fun e w' ⟨v, he, ho, hb'⟩ => ⟨v, he, own_base ho hb.size, hb'⟩)
        rw [List.length_drop] at hP
        rw [List.length_take, show min (splitZ ss.length) ss.length = splitZ ss.length by omega] at hR
        rw [pathZ_hi h2 hn63 hik]
        have hxl : (pathZ (ss.drop (splitZ ss.length)) (i - splitZ ss.length)).length ≤ 1000 := by
          have := pathZ_len ss.length (ss.drop (splitZ ss.length)) (i - splitZ ss.length) (by rw [List.length_drop]; omega); omega
        clear ih hp
        generalize rootZ (ss.take (splitZ ss.length)) = A at *
        generalize pathZ (ss.drop (splitZ ss.length)) (i - splitZ ss.length) = X at *
        generalize splitZ ss.length = k at *
        generalize ss.length = n at *
        have i1 : (0 : Int) ≤ (k : Int) := by omega
        have i2 : (k : Int) ≤ (cap : Int) := by omega
        have i3 : (k : Int) ≤ (n : Int) := by omega
        have i4 : (n : Int) ≤ (cap : Int) := by omega
        have d2 : ((n : Int) == 1) = false := by simp; omega
        have d4 : n ≠ 1 := by omega
        have d5 : (i : Int) - (k : Int) = ((i - k : Nat) : Int) := by omega
        have d7 : cap ≠ k := by omega
        have d6 : IntKind.i64.wrap ((i - k : Nat) : Int) = ((i - k : Nat) : Int) := by rw [IntKind.wrap_i64]; omega
        go_enter Tryd.func31, Tryd.ntmps31
        go_wp2_with (go_at_call 35; refine (hsp _).mono ?_; rintro e w' ⟨rfl, rfl⟩)
        go_region_held3 (fun w' => Below w.heap.size w w') (first | assumption | exact bthen (by assumption) b8 | exact bthen (by assumption) b7 | exact (show Below w.heap.size w w8 by assumption).alloc (show Below w.heap.size w w8 by assumption).size _ | exact keepAppend (by assumption) hgrow9 ((own_below own7 b8).alloc _) | fail)
          (first | (go_at_call 31; with_reducible refine Calls.mono (hP _ (by assumption)) ?_; rintro e w7 ⟨v7, rfl, own7, b7⟩) | (go_at_call 17; with_reducible refine Calls.mono (hR _ (by assumption)) ?_; rintro e w8 ⟨rfl, b8⟩) | (refine step_append_lies _ (by rfl) _ _ 22 (by rfl) w.heap.size 9 i0 (.string ⟨#[]⟩) 1 16 Tryd.underlying22 hi0 hz0 hz1 hz2 rfl (by omega) v7 X.length (strv X) (by rfl) ((own_below own7 b8).alloc _) ⟨w8.heap.size, 0, none⟩ 1 1 [.string A] (by rfl) (by rfl) (Arr.news4 _ _ _) (by simp [Value.oneCell']) (by omega) (by unfold maxLen; omega) (by omega) (Below.size (by assumption)) (w8.heap.size + 1) (by simp) ?_; intro gg cap9 w9 hown9 hgrow9 hat9 hlt9) | fail)
        have hbz := (show Below w.heap.size w w9 by assumption)
        go_wp2
        go_ret
        exact ⟨_, rfl, by simpa [strv] using hown9, hbz⟩
end Go.Proofs.YtfgojhhphknjkaaDoor
