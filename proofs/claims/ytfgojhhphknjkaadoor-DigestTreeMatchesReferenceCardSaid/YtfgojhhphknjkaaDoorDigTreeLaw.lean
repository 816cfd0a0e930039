/- DigestTreeMatchesReference: the walk. -/
import Derived.Test.YtfgojhhphknjkaaDoorDigRefT
import Derived.Test.YtfgojhhphknjkaaDoorDigSame
import Derived.Test.YtfgojhhphknjkaaDoorDigExtAcc
namespace Go.Proofs.YtfgojhhphknjkaaDoor
open Go.RowKit

/-- A list of the call's own and a number. -/
def ResT (W : World) (X : List ByteArray) (c : Int) (e : Ending) (w' : World) : Prop := ∃ v, e = .returned (.tuple #[v, .int .i64 c]) ∧ w'.ownsRow W.heap.size 9 1 v X.length (strv X) ∧ Below W.heap.size W w'
theorem ResT.nil {W w' : World} {e : Ending} {c : Int} (h : e = .returned (.tuple #[.slice none 0 0, .int .i64 c]) ∧ W = w') : ResT W [] c e w' :=
  ⟨_, h.1, World.ownsRow_nil _ _ _ _, h.2 ▸ Below.refl _ _⟩

theorem both_proof (P : List ByteArray) (i : Int) (p : Option Addr) (cap : Nat) (w : World) (h1 : -9223372036854775808 ≤ i) (h2 : i ≤ 9223372036854775807) (hl : P.length ≤ 40) (hcap : P.length ≤ cap) (hcap2 : cap ≤ 9223372036854775807) (hp : StrsAt w p P) (hs : SmallR P) (hK : ∀ W, Below w.heap.size w W → Keyed W) :
    ∃ (X : List ByteArray) (c : Int), X.length ≤ 1000 ∧ (∀ W, Below w.heap.size w W → Calls Tryd.prog 12 #[.slice p P.length cap, .int .i64 i] W (ResT W X c)) ∧
      ∀ W, Below w.heap.size w W → Calls Tryd.prog 13 #[.slice p P.length cap, .int .i64 i] W (ResT W X c) := by
  have hsm : Small P := fun s h => by have := hs s h; omega
  by_cases hi : 0 ≤ i ∧ i < P.length
  · obtain ⟨k, rfl⟩ : ∃ k : Nat, i = k := ⟨i.toNat, by omega⟩
    refine ⟨pathZ P k, 0, by have := pathZ_len P.length P k (Nat.le_refl _); omega, fun W hb => ?_, fun W hb => ?_⟩
    · exact proof_in P k p cap W (by omega) (by omega) hcap hcap2 (hp.below hb) hsm (hK W hb)
    · exact rpath_any P.length P k p cap W (Nat.le_refl _) (by omega) (by omega) (by omega) hcap hcap2 (hp.below hb) hs (hK W hb)
  · refine ⟨[], 2, by simp, fun W hb => ?_, fun W hb => ?_⟩
    · exact (proof_out P.length i p cap W (by omega) h1 h2 (by omega)).mono fun _ _ h => ResT.nil h
    · exact (rproof_out P.length i p cap W (by omega) h1 h2 (by omega)).mono fun _ _ h => ResT.nil h
theorem both_ext (P : List ByteArray) (m : Int) (p : Option Addr) (cap : Nat) (w : World) (h1 : -9223372036854775808 ≤ m) (h2 : m ≤ 9223372036854775807) (hl : P.length ≤ 40) (hcap : P.length ≤ cap) (hcap2 : cap ≤ 9223372036854775807) (hp : StrsAt w p P) (hs : SmallR P) (hK : ∀ W, Below w.heap.size w W → Keyed W) :
    ∃ (X : List ByteArray) (c : Int), X.length ≤ 1000 ∧ (∀ W, Below w.heap.size w W → Calls Tryd.prog 14 #[.slice p P.length cap, .int .i64 m] W (ResT W X c)) ∧
      ∀ W, Below w.heap.size w W → Calls Tryd.prog 15 #[.slice p P.length cap, .int .i64 m] W (ResT W X c) := by
  have hsm : Small P := fun s h => by have := hs s h; omega
  by_cases hm : 0 ≤ m ∧ m ≤ P.length
  · obtain ⟨k, rfl⟩ : ∃ k : Nat, m = k := ⟨m.toNat, by omega⟩
    by_cases h0 : k = 0
    · subst h0
      refine ⟨[], 0, by simp, fun W hb => ?_, fun W hb => ?_⟩
      · exact (ext_zero P.length p cap W (by omega)).mono fun _ _ h => ResT.nil h
      · exact (rext_zero P.length p cap W (by omega)).mono fun _ _ h => ResT.nil h
    · refine ⟨partZ P k true, 0, by have := partZ_len P.length P k true (Nat.le_refl _); omega, fun W hb => ?_, fun W hb => ?_⟩
      · exact ext_in P k p cap W (by omega) (by omega) (by omega) hcap hcap2 (hp.below hb) hsm (hK W hb)
      · exact rext_in P k p cap W (by omega) (by omega) (by omega) hcap hcap2 (hp.below hb) hs (hK W hb)
  · refine ⟨[], 2, by simp, fun W hb => ?_, fun W hb => ?_⟩
    · exact (ext_out P.length m p cap W (by omega) h1 h2 (by omega)).mono fun _ _ h => ResT.nil h
    · exact (rext_out P.length m p cap W (by omega) h1 h2 (by omega)).mono fun _ _ h => ResT.nil h

set_option maxRecDepth 100000 in
set_option maxHeartbeats 2000000 in
theorem tree_law (ss : List ByteArray) (i m : Int) (p : Option Addr) (cap : Nat) (w : World) (hi1 : -9223372036854775808 ≤ i) (hi2 : i ≤ 9223372036854775807) (hm1 : -9223372036854775808 ≤ m) (hm2 : m ≤ 9223372036854775807) (hl : ss.length ≤ 9223372036854775807) (hp : StrsAt w p ss) (hs : ∀ s ∈ ss, s.size ≤ 9223372036854775807) (hK : Keyed w) :
    Calls Tryd.prog 3 #[.slice p ss.length cap, .int .i64 i, .int .i64 m] w fun e w' => e = .returned (.bool true) ∧ Below w.heap.size w w' := by
  have hsane := sane_any w hK
  have hF1 := fun W (hb : Below w.heap.size w W) => few_any ss 40 (by omega) p cap W hl (hp.below hb) hs
  have hKb := fun W (hb : Below w.heap.size w W) => hK.below hb
  clear hp hs hl hK
  have lP : (fewZ ss 40).length ≤ 40 := by rw [fewZ_len]; omega
  have zP := fewZ_size ss 40
  generalize fewZ ss 40 = P at *
  have smR : SmallR P := fun x hx => by have := zP x hx; omega
  have smP : Small P := fun x hx => by have := zP x hx; omega
  go_enter Tryd.func3, Tryd.ntmps3
  go_wp2_with fail
  refine hsane.mono ?_
  rintro e w1 ⟨rfl, b1⟩
  go_wp2_with fail
  with_reducible refine Calls.mono (hF1 _ b1) ?_
  rintro e w2 ⟨v2, rfl, own2, b2⟩
  obtain ⟨p2, c2, rfl, cl2, cm2, st2⟩ := own_strs rfl own2
  have B2 := bthen b1 b2
  have hKw := fun W (hb : Below w2.heap.size w2 W) => hKb _ (bthen B2 hb)
  obtain ⟨X, cX, hX, hX1, hX2⟩ := both_proof P i p2 c2 w2 hi1 hi2 lP cl2 cm2 st2 smR hKw
  obtain ⟨Y, cY, hY, hY1, hY2⟩ := both_ext P m p2 c2 w2 hm1 hm2 lP cl2 cm2 st2 smR hKw
  have hR1 := fun W (hb : Below w2.heap.size w2 W) => root_any P.length P p2 c2 W (Nat.le_refl _) (by omega) cl2 cm2 (st2.below hb) smP (hKw _ hb)
  have hR2 := fun W (hb : Below w2.heap.size w2 W) => rroot_any P.length P p2 c2 W (Nat.le_refl _) (by omega) cl2 cm2 (st2.below hb) smR (hKw _ hb)
  generalize rootZ P = RT at *
  clear own2 hsane hF1 hKw hKb st2 smR smP zP
  go_wp2_with fail
  with_reducible refine Calls.mono (hX1 _ (Below.refl _ _)) ?_
  rintro e w3 ⟨v3, rfl, own3, b3⟩
  obtain ⟨p3, c3, rfl, -, -, st3⟩ := own_strs rfl own3
  go_wp2_with fail
  with_reducible refine Calls.mono (hX2 _ b3) ?_
  rintro e w4 ⟨v4, rfl, own4, b4⟩
  obtain ⟨p4, c4, rfl, -, -, st4⟩ := own_strs rfl own4
  have B4 := bthen b3 b4
  have st3 := st3.below b4
  go_wp2_with fail
  with_reducible refine Calls.mono (hY1 _ B4) ?_
  rintro e w5 ⟨v5, rfl, own5, b5⟩
  obtain ⟨p5, c5, rfl, -, -, st5⟩ := own_strs rfl own5
  have B5 := bthen B4 b5
  have st3 := st3.below b5
  have st4 := st4.below b5
  go_wp2_with fail
  with_reducible refine Calls.mono (hY2 _ B5) ?_
  rintro e w6 ⟨v6, rfl, own6, b6⟩
  obtain ⟨p6, c6, rfl, -, -, st6⟩ := own_strs rfl own6
  have B6 := bthen B5 b6
  have st3 := st3.below b6
  have st4 := st4.below b6
  have st5 := st5.below b6
  have S1 := same_any X X p3 p4 c3 c4 w6 hX hX st3 st4
  rw [decide_eq_true rfl] at S1
  clear own3 own4 own5 own6 hX1 hX2 hY1 hY2
  go_wp2_with fail
  refine S1.mono ?_
  rintro e w7 ⟨rfl, b7⟩
  have B7 := bthen B6 b7
  have S2 := same_any Y Y p5 p6 c5 c6 w7 hY hY (st5.below b7) (st6.below b7)
  rw [decide_eq_true rfl] at S2
  go_wp2_with fail
  refine S2.mono ?_
  rintro e w8 ⟨rfl, b8⟩
  have B8 := bthen B7 b8
  clear S1 S2
  go_wp2_with fail
  with_reducible refine Calls.mono (hR1 _ B8) ?_
  rintro e w9 ⟨rfl, b9⟩
  have B9 := bthen B8 b9
  go_wp2_with fail
  with_reducible refine Calls.mono (hR2 _ B9) ?_
  rintro e w10 ⟨rfl, b10⟩
  go_wp2_with fail
  go_ret
  exact ⟨by simp, bthen B2 (bthen B9 b10)⟩
end Go.Proofs.YtfgojhhphknjkaaDoor
