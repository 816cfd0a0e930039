/- The tree of digests, as plain functions. -/
import Derived.Test.YtfgojhhphknjkaaDoorDigFns
import Derived.Test.YtfgojhhphknjkaaDoorDigLen
import Derived.StillTailTactics
import Derived.Deep.RegionHeld3
namespace Go.Proofs.YtfgojhhphknjkaaDoor
open Go.RowKit

theorem shaN_len (m : List Nat) : (shaN m).length = 32 := by simp [shaN, St.list, word4]
theorem shaN_lt (m : List Nat) : ∀ x ∈ shaN m, x < 256 := by
  intro x hx
  have hl := foldl_lt (chunks ((m ++ padL m.length).length / 64) (m ++ padL m.length)) ini ini_lt
  unfold shaN at hx
  generalize (List.foldl mix ini (chunks ((m ++ padL m.length).length / 64) (m ++ padL m.length))) = r at *
  simp only [List.mem_flatMap, word4, List.mem_cons, List.not_mem_nil, or_false] at hx
  obtain ⟨y, _, h | h | h | h⟩ := hx <;> omega
theorem shaS_size (m : List Nat) : (shaS m).size = 32 := by
  unfold shaS strNs; rw [strOfNums_size, List.length_map, shaN_len]
theorem shaS_nb (m : List Nat) : nb (shaS m) = shaN m := nb_strNs (shaN_lt m)
theorem leafZ_size (s : ByteArray) : (leafZ s).size = 32 := shaS_size _
theorem nodeZ_size (a b : ByteArray) : (nodeZ a b).size = 32 := shaS_size _
theorem sumZ_size (a : ByteArray) : (sumZ a).size = 32 := shaS_size _
theorem chainZ_size (a b : ByteArray) : (chainZ a b).size = 32 := shaS_size _

/-- The root of a list. -/
def rootZ (l : List ByteArray) : ByteArray :=
  if h : 2 ≤ l.length ∧ l.length ≤ 9223372036854775807 then nodeZ (rootZ (l.take (splitZ l.length))) (rootZ (l.drop (splitZ l.length)))
  else match l with
    | [] => sumZ ⟨#[]⟩
    | x :: _ => leafZ x
  termination_by l.length
  decreasing_by
    · have := splitZ_spec h.1 h.2; rw [List.length_take]; omega
    · have := splitZ_spec h.1 h.2; rw [List.length_drop]; omega

theorem rootZ_nil : rootZ [] = sumZ ⟨#[]⟩ := by rw [rootZ]; simp
theorem rootZ_one (x : ByteArray) : rootZ [x] = leafZ x := by rw [rootZ]; simp
theorem rootZ_two {l : List ByteArray} (h : 2 ≤ l.length) (h2 : l.length ≤ 9223372036854775807) : rootZ l = nodeZ (rootZ (l.take (splitZ l.length))) (rootZ (l.drop (splitZ l.length))) := by
  conv => lhs; rw [rootZ]
  rw [dif_pos ⟨h, h2⟩]
theorem rootZ_size (l : List ByteArray) : (rootZ l).size = 32 := by
  rw [rootZ]
  split
  · exact nodeZ_size _ _
  · split
    · exact sumZ_size _
    · exact leafZ_size _

/-- The proof of an entry. -/
def pathZ (l : List ByteArray) (i : Nat) : List ByteArray :=
  if h : 2 ≤ l.length ∧ l.length ≤ 9223372036854775807 then
    if i < splitZ l.length then pathZ (l.take (splitZ l.length)) i ++ [rootZ (l.drop (splitZ l.length))] else pathZ (l.drop (splitZ l.length)) (i - splitZ l.length) ++ [rootZ (l.take (splitZ l.length))]
  else []
  termination_by l.length
  decreasing_by
    · have := splitZ_spec h.1 h.2; rw [List.length_take]; omega
    · have := splitZ_spec h.1 h.2; rw [List.length_drop]; omega

/-- The extension of a beginning. -/
def partZ (l : List ByteArray) (m : Nat) (whole : Bool) : List ByteArray :=
  if m = l.length then (if whole then [] else [rootZ l]) else
  if h : 2 ≤ l.length ∧ l.length ≤ 9223372036854775807 then
    if m ≤ splitZ l.length then partZ (l.take (splitZ l.length)) m whole ++ [rootZ (l.drop (splitZ l.length))] else partZ (l.drop (splitZ l.length)) (m - splitZ l.length) false ++ [rootZ (l.take (splitZ l.length))]
  else []
  termination_by l.length
  decreasing_by
    · have := splitZ_spec h.1 h.2; rw [List.length_take]; omega
    · have := splitZ_spec h.1 h.2; rw [List.length_drop]; omega

/-- The value of a proof, its last element first. -/
def climbR (leaf : ByteArray) : List ByteArray → Nat → Nat → ByteArray × Bool
  | [], n, _ => if n = 1 then (leaf, true) else (⟨#[]⟩, false)
  | x :: p, n, i => if n = 1 then (leaf, false) else
    if i < splitZ n then (nodeZ (climbR leaf p (splitZ n) i).1 x, (climbR leaf p (splitZ n) i).2) else (nodeZ x (climbR leaf p (n - splitZ n) (i - splitZ n)).1, (climbR leaf p (n - splitZ n) (i - splitZ n)).2)

/-- The two values of an extension's proof, its last element first. -/
def joinR (old : ByteArray) : List ByteArray → Nat → Nat → Bool → ByteArray × ByteArray × Bool
  | [], m, n, whole => if m = n ∧ whole = true then (old, old, true) else (⟨#[]⟩, ⟨#[]⟩, false)
  | x :: p, m, n, whole => if m = n ∧ whole = true then (old, old, false) else
    if m = n then (x, x, p.isEmpty) else
    if m ≤ splitZ n then ((joinR old p m (splitZ n) whole).1, nodeZ (joinR old p m (splitZ n) whole).2.1 x, (joinR old p m (splitZ n) whole).2.2)
    else (nodeZ x (joinR old p (m - splitZ n) (n - splitZ n) false).1, nodeZ x (joinR old p (m - splitZ n) (n - splitZ n) false).2.1, (joinR old p (m - splitZ n) (n - splitZ n) false).2.2)

theorem climbR_size (leaf : ByteArray) (h : leaf.size ≤ 32) : ∀ p n i, (climbR leaf p n i).1.size ≤ 32
  | [], n, i => by rw [climbR]; split; exact h; exact Nat.zero_le _
  | x :: p, n, i => by
    rw [climbR]; split
    · exact h
    · split <;> exact Nat.le_of_eq (nodeZ_size _ _)

theorem joinR_size (old : ByteArray) (h : old.size ≤ 32) : ∀ p m n whole, (∀ x ∈ p, x.size ≤ 32) → (joinR old p m n whole).1.size ≤ 32 ∧ (joinR old p m n whole).2.1.size ≤ 32
  | [], m, n, whole, _ => by rw [joinR]; split; exact ⟨h, h⟩; exact ⟨Nat.zero_le _, Nat.zero_le _⟩
  | x :: p, m, n, whole, hp => by
    have hx := hp x (by simp)
    have ih := fun m n w => joinR_size old h p m n w (fun y hy => hp y (by simp [hy]))
    rw [joinR]; split
    · exact ⟨h, h⟩
    · split
      · exact ⟨hx, hx⟩
      · split
        · exact ⟨(ih _ _ _).1, Nat.le_of_eq (nodeZ_size _ _)⟩
        · exact ⟨Nat.le_of_eq (nodeZ_size _ _), Nat.le_of_eq (nodeZ_size _ _)⟩

theorem StrsAt.below {w w' : World} {p : Option Addr} {ss : List ByteArray} (h : StrsAt w p ss) (hb : Below w.heap.size w w') : StrsAt w' p ss := fun i hi => by
  obtain ⟨b, off, e, hc⟩ := h i hi
  exact ⟨b, off, e, (hb.cell (p := ⟨b, off + i, none⟩) (cell_lt' hc)).trans hc⟩
theorem StrsAt.take {w : World} {p : Option Addr} {ss : List ByteArray} (h : StrsAt w p ss) (k : Nat) : StrsAt w p (ss.take k) := fun i hi => by
  rw [List.length_take] at hi
  obtain ⟨b, off, e, hc⟩ := h i (by omega)
  exact ⟨b, off, e, by rw [List.getElem_take]; exact hc⟩
theorem StrsAt.drop {w : World} {b off : Nat} {ss : List ByteArray} (h : StrsAt w (some ⟨b, off, none⟩) ss) (k : Nat) : StrsAt w (some ⟨b, off + k, none⟩) (ss.drop k) := fun i hi => by
  rw [List.length_drop] at hi
  obtain ⟨b', off', e, hc⟩ := h (k + i) (by omega)
  cases e
  exact ⟨b, off + k, rfl, by rw [List.getElem_drop, Nat.add_assoc]; exact hc⟩
theorem StrsAt.some {w : World} {p : Option Addr} {ss : List ByteArray} (h : StrsAt w p ss) (h1 : 1 ≤ ss.length) : ∃ b off, p = Option.some ⟨b, off, none⟩ := by
  obtain ⟨b, off, e, _⟩ := h 0 (by omega); exact ⟨b, off, e⟩

def Small (ss : List ByteArray) : Prop := ∀ s ∈ ss, s.size ≤ 140737488351232
theorem Small.take {ss : List ByteArray} (h : Small ss) (k : Nat) : Small (ss.take k) := fun s hs => h s (List.mem_of_mem_take hs)
theorem Small.drop {ss : List ByteArray} (h : Small ss) (k : Nat) : Small (ss.drop k) := fun s hs => h s (List.mem_of_mem_drop hs)
theorem Small.get {ss : List ByteArray} (h : Small ss) {i : Nat} (hi : i < ss.length) : ss[i].size ≤ 140737488351232 := h _ (List.getElem_mem hi)

set_option maxRecDepth 100000 in
set_option maxHeartbeats 2000000 in
theorem root_any : ∀ (N : Nat) (ss : List ByteArray) (p : Option Addr) (cap : Nat) (w : World), ss.length ≤ N → ss.length ≤ 1000 → ss.length ≤ cap → cap ≤ 9223372036854775807 → StrsAt w p ss → Small ss → Keyed w →
    Calls Tryd.prog 17 #[.slice p ss.length cap] w fun e w' => e = .returned (.string (rootZ ss)) ∧ Below w.heap.size w w' := by
  intro N
  induction N with
  | zero =>
    intro ss p cap w hN _ hcap hcap2 hp hs hK
    obtain rfl : ss = [] := List.eq_nil_of_length_eq_zero (by omega)
    rw [rootZ_nil]
    have hc := fun W hb => Sum_any ⟨#[]⟩ W (by decide) (hK.below (w' := W) hb)
    go_enter Tryd.func17, Tryd.ntmps17
    go_wp2_with (go_at_call 25; refine (hc _ (Below.refl _ _)).mono ?_; rintro e w' ⟨rfl, hb⟩)
    go_ret
    exact ⟨rfl, hb⟩
  | succ N ih =>
    intro ss p cap w hN h1000 hcap hcap2 hp hs hK
    by_cases h1 : ss.length = 1
    · obtain ⟨x, rfl⟩ : ∃ x, ss = [x] := List.length_eq_one_iff.1 h1
      obtain ⟨b, off, rfl, hcell⟩ := hp 0 (by simp)
      rw [rootZ_one]
      have hc := leaf_any x w (hs x (by simp)) hK
      change w.cell? ⟨b, off, none⟩ = some (.string x) at hcell
      go_enter Tryd.func17, Tryd.ntmps17
      go_wp2_with (go_at_call 27; refine hc.mono ?_; rintro e w' ⟨rfl, hb⟩)
      go_ret
      exact ⟨rfl, hb⟩
    · by_cases h2 : 2 ≤ ss.length
      · obtain ⟨b, off, rfl⟩ := hp.some (by omega)
        have hn63 : ss.length ≤ 9223372036854775807 := by omega
        obtain ⟨k1, k2, k3⟩ := splitZ_spec h2 hn63
        have hsp := fun W => split_any ss.length h2 hn63 W
        have hZ := rootZ_two h2 hn63
        have hR1 := fun W (hb : Below w.heap.size w W) => ih (ss.take (splitZ ss.length)) (some ⟨b, off, none⟩) cap W (by rw [List.length_take]; omega) (by rw [List.length_take]; omega) (by rw [List.length_take]; omega) hcap2 ((hp.below hb).take _) (hs.take _) (hK.below hb)
        have hR2 := fun W (hb : Below w.heap.size w W) => ih (ss.drop (splitZ ss.length)) (some ⟨b, off + splitZ ss.length, none⟩) (cap - splitZ ss.length) W (by rw [List.length_drop]; omega) (by rw [List.length_drop]; omega) (by rw [List.length_drop]; omega) (by omega) ((hp.below hb).drop _) (hs.drop _) (hK.below hb)
        have hND := fun W (hb : Below w.heap.size w W) => node_any (rootZ (ss.take (splitZ ss.length))) (rootZ (ss.drop (splitZ ss.length))) W (by rw [rootZ_size]; omega) (by rw [rootZ_size]; omega) (hK.below hb)
        rw [List.length_take, show min (splitZ ss.length) ss.length = splitZ ss.length by omega] at hR1
        rw [List.length_drop] at hR2
        rw [hZ]
        clear hZ ih hp
        generalize rootZ (ss.take (splitZ ss.length)) = A at *
        generalize rootZ (ss.drop (splitZ ss.length)) = B at *
        generalize splitZ ss.length = k at *
        generalize ss.length = n at *
        have hbd := (Below.refl w.heap.size w).drew
        have i1 : (0 : Int) ≤ (k : Int) := by omega
        have i2 : (k : Int) ≤ (cap : Int) := by omega
        have i3 : (k : Int) ≤ (n : Int) := by omega
        have i4 : (n : Int) ≤ (cap : Int) := by omega
        have d1 : ((n : Int) == 0) = false := by simp; omega
        have d2 : ((n : Int) == 1) = false := by simp; omega
        have d3 : n ≠ 0 := by omega
        have d4 : n ≠ 1 := by omega
        go_enter Tryd.func17, Tryd.ntmps17
        go_wp2_with (go_at_call 35; refine (hsp _).mono ?_; rintro e w' ⟨rfl, rfl⟩)
        go_region_held3 (fun w' => Below w.heap.size w w') (first | assumption | exact bthen (by assumption) b7)
          (first | (go_at_call 17; first | (with_reducible refine Calls.mono (hR1 _ (by assumption)) ?_; rintro e w7 ⟨rfl, b7⟩) | (with_reducible refine Calls.mono (hR2 _ (by assumption)) ?_; rintro e w7 ⟨rfl, b7⟩)) | (go_at_call 29; with_reducible refine Calls.mono (hND _ (by assumption)) ?_; rintro e w7 ⟨rfl, b7⟩))
        have hbz := (show Below w.heap.size w w7 by assumption)
        go_wp2
        go_ret
        exact ⟨rfl, hbz⟩
      · have : ss.length = 0 := by omega
        exact ih ss p cap w (by omega) h1000 hcap hcap2 hp hs hK
end Go.Proofs.YtfgojhhphknjkaaDoor
