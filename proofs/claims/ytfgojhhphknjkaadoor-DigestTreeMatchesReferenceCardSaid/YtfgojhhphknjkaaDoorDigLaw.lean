/- DigestBinding's walk. -/
import Derived.Test.YtfgojhhphknjkaaDoorDigBind
namespace Go.Proofs.YtfgojhhphknjkaaDoor
open Go.RowKit

theorem own_strs {W : World} {base n : Nat} {v : Value} {ss : List ByteArray} (hn : n = ss.length) (h : W.ownsRow base 9 1 v n (strv ss)) :
    ∃ p cap, v = .slice p ss.length cap ∧ ss.length ≤ cap ∧ cap ≤ 9223372036854775807 ∧ StrsAt W p ss := by
  subst hn
  have h' := h
  rcases h.2 with ⟨rfl, h0⟩ | ⟨g, cap, cur, rfl, _, _, h1, h2, _⟩
  · exact ⟨none, 0, by rw [h0], by omega, by omega, fun i hi => by omega⟩
  · exact ⟨_, cap, rfl, h1, by unfold maxLen at h2; exact h2, strsAt_own h'⟩

theorem wayR_small (s : ByteArray) (hs : s.size ≤ 60) : ∀ (p : List ByteArray) (n i : Nat), (∀ x ∈ p, x.size ≤ 60) → Small (wayR s p n i).1
  | [], n, i, _ => fun x hx => by
    rw [wayR_nil] at hx
    simp only [List.mem_cons, List.not_mem_nil, or_false] at hx
    subst hx
    rw [ByteArray.size_append, show (⟨#[0]⟩ : ByteArray).size = 1 from rfl]; omega
  | y :: p, n, i, hp => fun x hx => by
    have hy := hp y (by simp)
    have hp' : ∀ z ∈ p, z.size ≤ 60 := fun z hz => hp z (by simp [hz])
    rw [wayR] at hx
    split at hx
    · simp only [List.mem_cons, List.not_mem_nil, or_false] at hx
      subst hx
      rw [ByteArray.size_append, show (⟨#[0]⟩ : ByteArray).size = 1 from rfl]; omega
    · split at hx
      · rcases List.mem_cons.1 hx with rfl | hx
        · rw [ByteArray.size_append, ByteArray.size_append, wayR_size, show (⟨#[1]⟩ : ByteArray).size = 1 from rfl]; omega
        · exact wayR_small s hs p _ _ hp' x hx
      · rcases List.mem_cons.1 hx with rfl | hx
        · rw [ByteArray.size_append, ByteArray.size_append, wayR_size, show (⟨#[1]⟩ : ByteArray).size = 1 from rfl]; omega
        · exact wayR_small s hs p _ _ hp' x hx

set_option maxRecDepth 100000 in
set_option maxHeartbeats 4000000 in
theorem binding_any (root : ByteArray) (n i : Int) (s t : ByteArray) (ps qs : List ByteArray) (pp qq : Option Addr) (cp cq : Nat) (w : World) (hn1 : -9223372036854775808 ≤ n) (hn : n ≤ 9223372036854775807) (hi1 : -9223372036854775808 ≤ i) (hi : i ≤ 9223372036854775807)
    (hs : s.size ≤ 9223372036854775807) (ht : t.size ≤ 9223372036854775807) (hpl : ps.length ≤ 9223372036854775807) (hql : qs.length ≤ 9223372036854775807) (hpz : ∀ x ∈ ps, x.size ≤ 9223372036854775807) (hqz : ∀ x ∈ qs, x.size ≤ 9223372036854775807)
    (hp : StrsAt w pp ps) (hq : StrsAt w qq qs) (hK : Keyed w) :
    Calls Tryd.prog 6 #[.string root, .int .i64 n, .int .i64 i, .string s, .slice pp ps.length cp, .string t, .slice qq qs.length cq] w fun e w' => e = .returned (.bool true) ∧ Below w.heap.size w w' := by
  have hsane := sane_any w hK
  have hF1 := fun W (hb : Below w.heap.size w W) => few_any ps 70 (by omega) pp cp W hpl (hp.below hb) hpz
  have hF2 := fun W (hb : Below w.heap.size w W) => few_any qs 70 (by omega) qq cq W hql (hq.below hb) hqz
  have hKb := fun W (hb : Below w.heap.size w W) => hK.below hb
  clear hp hq hpz hqz hpl hql
  have lP : (fewZ ps 70).length ≤ 70 := by rw [fewZ_len]; omega
  have lQ : (fewZ qs 70).length ≤ 70 := by rw [fewZ_len]; omega
  have zP := fewZ_size ps 70
  have zQ := fewZ_size qs 70
  generalize fewZ ps 70 = P at *
  generalize fewZ qs 70 = Q at *
  have zS : (s.extract 0 (min (s.size : Int) 60).toNat).size ≤ 60 := by rw [ByteArray.size_extract]; omega
  have zT : (t.extract 0 (min (t.size : Int) 60).toNat).size ≤ 60 := by rw [ByteArray.size_extract]; omega
  have i1 : (0 : Int) ≤ min (s.size : Int) 60 := by omega
  have i2 : min (s.size : Int) 60 ≤ (s.size : Int) := by omega
  have i3 : (0 : Int) ≤ min (t.size : Int) 60 := by omega
  have i4 : min (t.size : Int) 60 ≤ (t.size : Int) := by omega
  go_enter Tryd.func6, Tryd.ntmps6
  go_wp2_with fail
  refine hsane.mono ?_
  rintro e w1 ⟨rfl, b1⟩
  go_wp2_with fail
  with_reducible refine Calls.mono (hF1 _ b1) ?_
  rintro e w2 ⟨v2, rfl, own2, b2⟩
  obtain ⟨p2, c2, rfl, cl2, cm2, st2⟩ := own_strs rfl own2
  have B2 := bthen b1 b2
  go_wp2_with fail
  with_reducible refine Calls.mono (hF2 _ B2) ?_
  rintro e w3 ⟨v3, rfl, own3, b3⟩
  obtain ⟨p3, c3, rfl, cl3, cm3, st3⟩ := own_strs rfl own3
  have B3 := bthen B2 b3
  have stP := st2.below b3
  clear own2 own3 hsane hF1 hF2 st2
  have smP : Small P := fun x hx => by have := zP x hx; omega
  have smQ : Small Q := fun x hx => by have := zQ x hx; omega
  have hV1 := fun W (hb : Below w3.heap.size w3 W) => verify_any root n i (s.extract 0 (min (s.size : Int) 60).toNat) P p2 c2 W hn1 hn hi1 hi (by omega) (by omega) cl2 cm2 (stP.below hb) smP (hKb _ (bthen B3 hb))
  have hV2 := fun W (hb : Below w3.heap.size w3 W) => verify_any root n i (t.extract 0 (min (t.size : Int) 60).toNat) Q p3 c3 W hn1 hn hi1 hi (by omega) (by omega) cl3 cm3 (st3.below hb) smQ (hKb _ (bthen B3 hb))
  have hbind := @verify_bind root (s.extract 0 (min (s.size : Int) 60).toNat) (t.extract 0 (min (t.size : Int) 60).toNat) n i P Q hn
  have hWay := fun (m j : Nat) (hmj : j < m) (hm : m ≤ 9223372036854775807) W (hb : Below w3.heap.size w3 W) => way_any (s.extract 0 (min (s.size : Int) 60).toNat) (by omega) P.length P m j p2 c2 W (Nat.le_refl _) hmj hm (by omega) cl2 cm2 (stP.below hb) zP (hKb _ (bthen B3 hb))
  have hWay2 := fun (m j : Nat) (hmj : j < m) (hm : m ≤ 9223372036854775807) W (hb : Below w3.heap.size w3 W) => way_any (t.extract 0 (min (t.size : Int) 60).toNat) (by omega) Q.length Q m j p3 c3 W (Nat.le_refl _) hmj hm (by omega) cl3 cm3 (st3.below hb) zQ (hKb _ (bthen B3 hb))
  obtain ⟨v1, hv1⟩ : ∃ v, verifyZ root n i (s.extract 0 (min (s.size : Int) 60).toNat) P = v := ⟨_, rfl⟩
  obtain ⟨v2, hv2⟩ : ∃ v, verifyZ root n i (t.extract 0 (min (t.size : Int) 60).toNat) Q = v := ⟨_, rfl⟩
  rw [hv1] at hV1 hbind
  rw [hv2] at hV2 hbind
  clear hv1 hv2
  obtain ⟨d, hd⟩ : ∃ d, ((s.extract 0 (min (s.size : Int) 60).toNat).toList == (t.extract 0 (min (t.size : Int) 60).toNat).toList) = d := ⟨_, rfl⟩
  have hne : d = false → (s.extract 0 (min (s.size : Int) 60).toNat) ≠ (t.extract 0 (min (t.size : Int) 60).toNat) := fun h e => by
    rw [e, beq_self_eq_true] at hd; rw [← hd] at h; cases h
  have HB := Lib.hid hbind
  have HW1 := Lib.hid hWay
  have HW2 := Lib.hid hWay2
  have HN := Lib.hid hne
  clear hbind hWay hWay2 hne
  go_wp2_with fail
  with_reducible refine Calls.mono (hV1 _ (Below.refl _ _)) ?_
  rintro e w4 ⟨rfl, b4⟩
  go_wp2_with fail
  with_reducible refine Calls.mono (hV2 _ b4) ?_
  rintro e w5 ⟨rfl, b5⟩
  have B5 := bthen b4 b5
  clear hV1 hV2
  cases v1 with
  | false =>
    go_wp2
    all_goals (go_ret; exact ⟨rfl, bthen B3 B5⟩)
  | true =>
    cases v2 with
    | false =>
      go_wp2
      all_goals (go_ret; exact ⟨rfl, bthen B3 B5⟩)
    | true =>
      cases d with
      | true =>
        go_wp2
        all_goals (go_ret; exact ⟨rfl, bthen B3 B5⟩)
      | false =>
        obtain ⟨hi0, hin, hcoll⟩ := HB.out (HN.out rfl) rfl rfl
        obtain ⟨m, rfl⟩ := Int.eq_ofNat_of_zero_le (show 0 ≤ n by omega)
        obtain ⟨j, rfl⟩ := Int.eq_ofNat_of_zero_le hi0
        rw [Int.toNat_natCast, Int.toNat_natCast] at hcoll
        have hW1 := HW1.out m j (by omega) (by omega)
        have hW2 := HW2.out m j (by omega) (by omega)
        have hl1 := wayR_len (s.extract 0 (min (s.size : Int) 60).toNat) P.reverse m j
        have hl2 := wayR_len (t.extract 0 (min (t.size : Int) 60).toNat) Q.reverse m j
        rw [List.length_reverse] at hl1 hl2
        have hs1 := wayR_small (s.extract 0 (min (s.size : Int) 60).toNat) zS P.reverse m j (fun x hx => zP x (by simpa using hx))
        have hs2 := wayR_small (t.extract 0 (min (t.size : Int) 60).toNat) zT Q.reverse m j (fun x hx => zQ x (by simpa using hx))
        clear HB HW1 HW2 HN
        generalize wayR (s.extract 0 (min (s.size : Int) 60).toNat) P.reverse m j = ra at *
        generalize wayR (t.extract 0 (min (t.size : Int) 60).toNat) Q.reverse m j = rb at *
        obtain ⟨la, xa⟩ := ra
        obtain ⟨lb, xb⟩ := rb
        simp only at hcoll hW1 hW2 hl1 hl2 hs1 hs2
        go_wp2_with fail
        with_reducible refine Calls.mono (hW1 _ B5) ?_
        rintro e w6 ⟨va, rfl, owna, b6⟩
        obtain ⟨pa, ca, rfl, _, _, sta⟩ := own_strs rfl owna
        have B6 := bthen B5 b6
        go_wp2_with fail
        with_reducible refine Calls.mono (hW2 _ B6) ?_
        rintro e w7 ⟨vb, rfl, ownb, b7⟩
        obtain ⟨pb, cb, rfl, _, _, stb⟩ := own_strs rfl ownb
        have hC := collide_any la lb pa pb ca cb w7 (by omega) (by omega) (sta.below b7) stb hs1 hs2 (hKb _ (bthen B3 (bthen B6 b7)))
        rw [hcoll] at hC
        go_wp2_with fail
        with_reducible refine Calls.mono hC ?_
        rintro e w8 ⟨rfl, b8⟩
        go_wp2
        all_goals (go_ret; exact ⟨rfl, bthen B3 (bthen (bthen B6 b7) b8)⟩)
end Go.Proofs.YtfgojhhphknjkaaDoor
