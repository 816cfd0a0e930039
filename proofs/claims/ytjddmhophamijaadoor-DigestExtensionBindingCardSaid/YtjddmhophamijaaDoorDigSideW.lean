/- sides and DigestExtensionBinding's walk. -/
import Derived.Test.YtjddmhophamijaaDoorDigSide
namespace Go.Proofs.YtjddmhophamijaaDoor
open Go.RowKit

set_option maxRecDepth 100000 in
set_option maxHeartbeats 2000000 in
theorem sides_any (old : ByteArray) (ho : old.size = 32) : ∀ (N : Nat) (ss : List ByteArray) (m n : Nat) (whole : Bool) (p : Option Addr) (cap : Nat) (w : World), ss.length ≤ N → 1 ≤ m → m ≤ n → n ≤ 9223372036854775807 → ss.length ≤ 100 → ss.length ≤ cap → cap ≤ 9223372036854775807 → StrsAt w p ss → (∀ s ∈ ss, s.size = 32) → Keyed w →
    Calls Tryd.prog 26 #[.string old, .int .i64 m, .int .i64 n, .slice p ss.length cap, .bool whole] w fun e w' => ∃ v, e = .returned (.tuple #[v, .string (sidesR old ss.reverse m n whole).2]) ∧ w'.ownsRow w.heap.size 9 1 v (sidesR old ss.reverse m n whole).1.length (strv (sidesR old ss.reverse m n whole).1) ∧ Below w.heap.size w w' := by
  intro N
  induction N with
  | zero =>
    intro ss m n whole p cap w hN hm hmn hn h1000 hcap hcap2 hp hs hK
    obtain rfl : ss = [] := List.eq_nil_of_length_eq_zero (by omega)
    rw [show sidesR old ([] : List ByteArray).reverse m n whole = ([], old) from rfl]
    have hd : decide ((n : Int) ≤ (m : Int)) = true ∨ decide ((n : Int) ≤ (m : Int)) = false := by cases decide ((n : Int) ≤ (m : Int)) <;> simp
    rcases hd with d1 | d1
    · cases whole with
      | true =>
        go_enter Tryd.func26, Tryd.ntmps26
        go_wp2
        all_goals (go_ret2; exact ⟨_, rfl, World.ownsRow_nil _ _ _ _, Below.refl _ _⟩)
      | false =>
        go_enter Tryd.func26, Tryd.ntmps26
        go_wp2
        all_goals (go_ret2; exact ⟨_, rfl, World.ownsRow_nil _ _ _ _, Below.refl _ _⟩)
    · cases whole with
      | true =>
        go_enter Tryd.func26, Tryd.ntmps26
        go_wp2
        all_goals (go_ret2; exact ⟨_, rfl, World.ownsRow_nil _ _ _ _, Below.refl _ _⟩)
      | false =>
        go_enter Tryd.func26, Tryd.ntmps26
        go_wp2
        all_goals (go_ret2; exact ⟨_, rfl, World.ownsRow_nil _ _ _ _, Below.refl _ _⟩)
  | succ N ih =>
    intro ss m n whole p cap w hN hm hmn hn h1000 hcap hcap2 hp hs hK
    obtain ⟨i0, hi0, hz0, hz1, hz2⟩ := info_parts infoStr
    rcases list_last ss with rfl | ⟨ini, x, rfl⟩
    · exact ih [] m n whole p cap w (Nat.zero_le _) hm hmn hn h1000 hcap hcap2 hp hs hK
    · have hl : (ini ++ [x]).length = ini.length + 1 := by simp
      by_cases h1 : n ≤ m
      · have d1 : decide ((n : Int) ≤ (m : Int)) = true := by simp; omega
        cases whole with
        | true =>
          rw [show sidesR old (ini ++ [x]).reverse m n true = ([], old) by rw [List.reverse_append, List.reverse_singleton, List.singleton_append, sidesR, if_pos h1]; rfl]
          go_enter Tryd.func26, Tryd.ntmps26
          go_wp2
          all_goals (go_ret2; exact ⟨_, rfl, World.ownsRow_nil _ _ _ _, Below.refl _ _⟩)
        | false =>
          obtain ⟨b, off, rfl, hc⟩ := hp 0 (by simp)
          rw [show sidesR old (ini ++ [x]).reverse m n false = ([], (ini ++ [x])[0]) by
            rw [List.reverse_append, List.reverse_singleton, List.singleton_append, sidesR, if_pos h1, if_neg (by simp)]
            congr 1
            rw [List.getLast_eq_getElem]
            cases ini with
            | nil => rfl
            | cons a l => simp]
          rw [Nat.add_zero] at hc
          clear hp
          generalize (ini ++ [x])[0] = y at hc ⊢
          rw [hl] at hN h1000 hcap ⊢
          have q1 : (((ini.length + 1 : Nat) : Int) == 0) = false := by rw [beq_eq_false_iff_ne]; omega
          have q2 : ((ini.length : Int) + 1 == 0) = false := by rw [beq_eq_false_iff_ne]; omega
          have q3 : ¬ ((ini.length : Int) + 1 = 0) := by omega
          have q4 : (0 : Int) < ((ini.length + 1 : Nat) : Int) := by omega
          have q5 : (0 : Int) < (ini.length : Int) + 1 := by omega
          clear ih
          generalize ini.length = L at *
          go_enter Tryd.func26, Tryd.ntmps26
          go_wp2_with fail
          go_quiet (fail)
          go_wp2
          go_ret2
          exact ⟨_, rfl, World.ownsRow_nil _ _ _ _, below_drewN (Below.refl _ _) _⟩
      · have hxs := hs x (by simp)
        have hini : ∀ s ∈ ini, s.size = 32 := fun s h => hs s (by simp [h])
        have hpi : StrsAt w p ini := by have := hp.take ini.length; rwa [List.take_left] at this
        obtain ⟨b, off, rfl, hc⟩ := hp ini.length (by simp)
        simp only [List.getElem_concat_length] at hc
        rw [List.reverse_append, List.reverse_singleton, List.singleton_append]
        rw [hl] at hN h1000 hcap ⊢
        have h2 : 2 ≤ n := by omega
        obtain ⟨k1, k2, k3⟩ := splitZ_spec h2 hn
        have hsp := fun W => left_any n h2 hn W
        have d1 : decide ((n : Int) ≤ (m : Int)) = false := by simp; omega
        have q1 : (((ini.length + 1 : Nat) : Int) == 0) = false := by rw [beq_eq_false_iff_ne]; omega
        have q2 : ((ini.length : Int) + 1 == 0) = false := by rw [beq_eq_false_iff_ne]; omega
        have q3 : ¬ ((ini.length : Int) + 1 = 0) := by omega
        have hone : ∀ l : List ByteArray, ∀ u ∈ strv l, u.oneCell' = true := fun l u hu => by simp only [strv, List.mem_map] at hu; obtain ⟨y, _, rfl⟩ := hu; rfl
        by_cases hik : m ≤ splitZ n
        · skip
          rw [sidesR_lo (by omega) hik]
          have hr := sidesR_size old ho ini.reverse m (splitZ n) whole (fun y hy => hini y (by simpa using hy))
          have hrl := sidesR_len old ini.reverse m (splitZ n) whole
          rw [List.length_reverse] at hrl
          have hC := fun W (hb : Below w.heap.size w W) => (ih ini m (splitZ n) whole (some ⟨b, off, none⟩) cap W (by omega) (by omega) (by omega) (by omega) (by omega) (by omega) hcap2 (hpi.below hb) hini (hK.below hb))
          clear ih hpi
          generalize sidesR old ini.reverse m (splitZ n) whole = r at *
          obtain ⟨r1, r2⟩ := r
          simp only at hr hrl hC ⊢
          have hND := fun W (hb : Below w.heap.size w W) => node_any r2 x W (by omega) (by omega) (hK.below hb)
          have hsz : (⟨#[1]⟩ ++ r2 ++ x).size ≤ 1000 := by rw [ByteArray.size_append, ByteArray.size_append, show (⟨#[1]⟩ : ByteArray).size = 1 from rfl]; omega
          generalize splitZ n = k at *
          generalize hL : ini.length = L at *
          go_enter Tryd.func26, Tryd.ntmps26
          go_wp2_with (first | (go_at_call 28; refine (hsp _).mono ?_; rintro e w' ⟨rfl, rfl⟩) | fail)
          with_reducible refine Calls.mono (hC _ (Below.refl _ _)) ?_
          rintro e w7 ⟨v7, rfl, own7, b7⟩
          have ownL : (w7.alloc (.cells #[.string (⟨#[1]⟩ ++ r2 ++ x)] 9)).ownsRow w.heap.size 9 1 (.slice (some ⟨w7.heap.size, 0, none⟩) 1 1) 1 [.string (⟨#[1]⟩ ++ r2 ++ x)] := World.ownsRow_lit w7 #[.string (⟨#[1]⟩ ++ r2 ++ x)] 1 b7.size (by unfold maxLen; omega) rfl
          rcases own7.2 with ⟨rfl, h0⟩ | ⟨g7, cap7, cur7, rfl, _⟩
          · have hr0 : r1 = [] := List.eq_nil_of_length_eq_zero h0
            subst hr0
            go_wp2_with fail
            with_reducible refine Calls.mono (hND _ (b7.alloc b7.size _)) ?_
            rintro e w10 ⟨rfl, b10⟩
            go_wp2
            go_ret2
            exact ⟨_, rfl, own_below ownL b10, bthen (b7.alloc b7.size _) b10⟩
          · have hnw := (own7.alloc (.cells #[.string (⟨#[1]⟩ ++ r2 ++ x)] 9)).cells (g := g7) rfl
            go_wp2_with (first | (at_builtin; refine wpList_append_own _ rfl _ _ 22 rfl w.heap.size 9 i0 (.string ⟨#[]⟩) 1 16 Tryd.underlying22 hi0 hz0 hz1 hz2 rfl (by decide) _ _ _ rfl ownL ⟨g7, 0, none⟩ r1.length cap7 (strv r1) rfl (by simp [strv]) hnw (hone _) (by unfold maxLen; omega) (by omega) (by have := b7.size; simp; omega) ?_; intro v9 w9 hown9 hgrow9 _) | fail)
            have b9 : Below w.heap.size w w9 := (b7.alloc b7.size _).grown hgrow9 (by have := b7.size; simp; omega) (own_le ownL)
            with_reducible refine Calls.mono (hND _ b9) ?_
            rintro e w10 ⟨rfl, b10⟩
            go_wp2
            go_ret2
            exact ⟨_, rfl, by have := own_below hown9 b10; simpa [strv, Nat.add_comm] using this, bthen b9 b10⟩
        · skip
          rw [sidesR_hi (by omega) hik]
          have hr := sidesR_size old ho ini.reverse (m - splitZ n) (n - splitZ n) false (fun y hy => hini y (by simpa using hy))
          have hrl := sidesR_len old ini.reverse (m - splitZ n) (n - splitZ n) false
          rw [List.length_reverse] at hrl
          have hC := fun W (hb : Below w.heap.size w W) => (ih ini (m - splitZ n) (n - splitZ n) false (some ⟨b, off, none⟩) cap W (by omega) (by omega) (by omega) (by omega) (by omega) (by omega) hcap2 (hpi.below hb) hini (hK.below hb))
          clear ih hpi
          generalize sidesR old ini.reverse (m - splitZ n) (n - splitZ n) false = r at *
          obtain ⟨r1, r2⟩ := r
          simp only at hr hrl hC ⊢
          have hND := fun W (hb : Below w.heap.size w W) => node_any x r2 W (by omega) (by omega) (hK.below hb)
          have hsz : (⟨#[1]⟩ ++ x ++ r2).size ≤ 1000 := by rw [ByteArray.size_append, ByteArray.size_append, show (⟨#[1]⟩ : ByteArray).size = 1 from rfl]; omega
          generalize splitZ n = k at *
          generalize hL : ini.length = L at *
          have e1 : (n : Int) - (k : Int) = ((n - k : Nat) : Int) := by omega
          have e2 : (m : Int) - (k : Int) = ((m - k : Nat) : Int) := by omega
          go_enter Tryd.func26, Tryd.ntmps26
          go_wp2_with (first | (go_at_call 28; refine (hsp _).mono ?_; rintro e w' ⟨rfl, rfl⟩) | fail)
          with_reducible refine Calls.mono (hC _ (Below.refl _ _)) ?_
          rintro e w7 ⟨v7, rfl, own7, b7⟩
          have ownL : (w7.alloc (.cells #[.string (⟨#[1]⟩ ++ x ++ r2)] 9)).ownsRow w.heap.size 9 1 (.slice (some ⟨w7.heap.size, 0, none⟩) 1 1) 1 [.string (⟨#[1]⟩ ++ x ++ r2)] := World.ownsRow_lit w7 #[.string (⟨#[1]⟩ ++ x ++ r2)] 1 b7.size (by unfold maxLen; omega) rfl
          rcases own7.2 with ⟨rfl, h0⟩ | ⟨g7, cap7, cur7, rfl, _⟩
          · have hr0 : r1 = [] := List.eq_nil_of_length_eq_zero h0
            subst hr0
            go_wp2_with fail
            with_reducible refine Calls.mono (hND _ (b7.alloc b7.size _)) ?_
            rintro e w10 ⟨rfl, b10⟩
            go_wp2
            go_ret2
            exact ⟨_, rfl, own_below ownL b10, bthen (b7.alloc b7.size _) b10⟩
          · have hnw := (own7.alloc (.cells #[.string (⟨#[1]⟩ ++ x ++ r2)] 9)).cells (g := g7) rfl
            go_wp2_with (first | (at_builtin; refine wpList_append_own _ rfl _ _ 22 rfl w.heap.size 9 i0 (.string ⟨#[]⟩) 1 16 Tryd.underlying22 hi0 hz0 hz1 hz2 rfl (by decide) _ _ _ rfl ownL ⟨g7, 0, none⟩ r1.length cap7 (strv r1) rfl (by simp [strv]) hnw (hone _) (by unfold maxLen; omega) (by omega) (by have := b7.size; simp; omega) ?_; intro v9 w9 hown9 hgrow9 _) | fail)
            have b9 : Below w.heap.size w w9 := (b7.alloc b7.size _).grown hgrow9 (by have := b7.size; simp; omega) (own_le ownL)
            with_reducible refine Calls.mono (hND _ b9) ?_
            rintro e w10 ⟨rfl, b10⟩
            go_wp2
            go_ret2
            exact ⟨_, rfl, by have := own_below hown9 b10; simpa [strv, Nat.add_comm] using this, bthen b9 b10⟩

set_option maxRecDepth 100000 in
set_option maxHeartbeats 4000000 in
theorem extBinding_any (a b root : ByteArray) (m n : Int) (ps qs : List ByteArray) (pp qq : Option Addr) (cp cq : Nat) (w : World) (hn1 : -9223372036854775808 ≤ n) (hn : n ≤ 9223372036854775807) (hm1 : -9223372036854775808 ≤ m) (hm : m ≤ 9223372036854775807)
    (ha : a.size ≤ 9223372036854775807) (hb : b.size ≤ 9223372036854775807) (hroot : root.size ≤ 9223372036854775807) (hpl : ps.length ≤ 9223372036854775807) (hql : qs.length ≤ 9223372036854775807) (hpz : ∀ x ∈ ps, x.size ≤ 9223372036854775807) (hqz : ∀ x ∈ qs, x.size ≤ 9223372036854775807)
    (hp : StrsAt w pp ps) (hq : StrsAt w qq qs) (hK : Keyed w) :
    Calls Tryd.prog 8 #[.string a, .slice pp ps.length cp, .string b, .slice qq qs.length cq, .int .i64 m, .string root, .int .i64 n] w fun e w' => e = .returned (.bool true) ∧ Below w.heap.size w w' := by
  have hsane := sane_any w hK
  have hF1 := fun W (hb : Below w.heap.size w W) => few_any ps 70 (by omega) pp cp W hpl (hp.below hb) hpz
  have hF2 := fun W (hb : Below w.heap.size w W) => few_any qs 70 (by omega) qq cq W hql (hq.below hb) hqz
  have hKb := fun W (hb : Below w.heap.size w W) => hK.below hb
  clear hp hq hpz hqz hpl hql
  have lP : (fewZ ps 70).length ≤ 70 := by rw [fewZ_len]; omega
  have lQ : (fewZ qs 70).length ≤ 70 := by rw [fewZ_len]; omega
  have zP := fewZ_size ps 70
  have zQ := fewZ_size qs 70
  generalize fewZ ps 70 = P at *
  generalize fewZ qs 70 = Q at *
  go_enter Tryd.func8, Tryd.ntmps8
  go_wp2_with fail
  refine hsane.mono ?_
  rintro e w1 ⟨rfl, b1⟩
  go_wp2_with fail
  with_reducible refine Calls.mono (hF1 _ b1) ?_
  rintro e w2 ⟨v2, rfl, own2, b2⟩
  obtain ⟨p2, c2, rfl, cl2, cm2, st2⟩ := own_strs rfl own2
  have B2 := bthen b1 b2
  go_wp2_with fail
  with_reducible refine Calls.mono (hF2 _ B2) ?_
  rintro e w3 ⟨v3, rfl, own3, b3⟩
  obtain ⟨p3, c3, rfl, cl3, cm3, st3⟩ := own_strs rfl own3
  have B3 := bthen B2 b3
  have stP := st2.below b3
  clear own2 own3 hsane hF1 hF2 st2
  have smP : Small P := fun x hx => by have := zP x hx; omega
  have smQ : Small Q := fun x hx => by have := zQ x hx; omega
  have hV1 := fun W (hb' : Below w3.heap.size w3 W) => verifyExt_any a m root n P p2 c2 W hn1 hn hm1 hm ha hroot (by omega) cl2 cm2 (stP.below hb') smP (hKb _ (bthen B3 hb'))
  have hV2 := fun W (hb' : Below w3.heap.size w3 W) => verifyExt_any b m root n Q p3 c3 W hn1 hn hm1 hm hb hroot (by omega) cl3 cm3 (st3.below hb') smQ (hKb _ (bthen B3 hb'))
  have hbind := @verifyExt_bind root a b m n P Q hn
  have hS1 := fun (i j : Nat) (h1 : 1 ≤ i) (hij : i ≤ j) (hj : j ≤ 9223372036854775807) (ha' : a.size = 32) (hP : ∀ x ∈ P, x.size = 32) W (hb' : Below w3.heap.size w3 W) => sides_any a ha' P.length P i j true p2 c2 W (Nat.le_refl _) h1 hij hj (by omega) cl2 cm2 (stP.below hb') hP (hKb _ (bthen B3 hb'))
  have hS2 := fun (i j : Nat) (h1 : 1 ≤ i) (hij : i ≤ j) (hj : j ≤ 9223372036854775807) (hb'' : b.size = 32) (hQ : ∀ x ∈ Q, x.size = 32) W (hb' : Below w3.heap.size w3 W) => sides_any b hb'' Q.length Q i j true p3 c3 W (Nat.le_refl _) h1 hij hj (by omega) cl3 cm3 (st3.below hb') hQ (hKb _ (bthen B3 hb'))
  obtain ⟨v1, hv1⟩ : ∃ v, verifyExtZ a m root n P = v := ⟨_, rfl⟩
  obtain ⟨v2, hv2⟩ : ∃ v, verifyExtZ b m root n Q = v := ⟨_, rfl⟩
  rw [hv1] at hV1 hbind
  rw [hv2] at hV2 hbind
  clear hv1 hv2
  obtain ⟨d, hd⟩ : ∃ d, (a.toList == b.toList) = d := ⟨_, rfl⟩
  have hne : d = false → a ≠ b := fun h e => by
    rw [e, beq_self_eq_true] at hd; rw [← hd] at h; cases h
  have HB := Lib.hid hbind
  have HS1 := Lib.hid hS1
  have HS2 := Lib.hid hS2
  have HN := Lib.hid hne
  clear hbind hS1 hS2 hne
  go_wp2_with fail
  with_reducible refine Calls.mono (hV1 _ (Below.refl _ _)) ?_
  rintro e w4 ⟨rfl, b4⟩
  go_wp2_with fail
  with_reducible refine Calls.mono (hV2 _ b4) ?_
  rintro e w5 ⟨rfl, b5⟩
  have B5 := bthen b4 b5
  clear hV1 hV2
  cases v1 with
  | false =>
    go_wp2
    all_goals (go_ret; exact ⟨rfl, bthen B3 B5⟩)
  | true =>
    cases v2 with
    | false =>
      go_wp2
      all_goals (go_ret; exact ⟨rfl, bthen B3 B5⟩)
    | true =>
      cases d with
      | true =>
        go_wp2
        all_goals (go_ret; exact ⟨rfl, bthen B3 B5⟩)
      | false =>
        obtain ⟨hi0, hin, ha', hb', hP, hQ, hcoll⟩ := HB.out (HN.out rfl) rfl rfl
        obtain ⟨n, rfl⟩ := Int.eq_ofNat_of_zero_le (show 0 ≤ n by omega)
        obtain ⟨m, rfl⟩ := Int.eq_ofNat_of_zero_le (show 0 ≤ m by omega)
        rw [Int.toNat_natCast, Int.toNat_natCast] at hcoll
        have hW1 := HS1.out m n (by omega) (by omega) (by omega) ha' hP
        have hW2 := HS2.out m n (by omega) (by omega) (by omega) hb' hQ
        have hl1 := sidesR_len a P.reverse m n true
        have hl2 := sidesR_len b Q.reverse m n true
        rw [List.length_reverse] at hl1 hl2
        have hs1 := sidesR_small a ha' P.reverse m n true (fun x hx => hP x (by simpa using hx))
        have hs2 := sidesR_small b hb' Q.reverse m n true (fun x hx => hQ x (by simpa using hx))
        clear HB HS1 HS2 HN
        generalize sidesR a P.reverse m n true = ra at *
        generalize sidesR b Q.reverse m n true = rb at *
        obtain ⟨la, xa⟩ := ra
        obtain ⟨lb, xb⟩ := rb
        simp only at hcoll hW1 hW2 hl1 hl2 hs1 hs2
        go_wp2_with fail
        with_reducible refine Calls.mono (hW1 _ B5) ?_
        rintro e w6 ⟨va, rfl, owna, b6⟩
        obtain ⟨pa, ca, rfl, _, _, sta⟩ := own_strs rfl owna
        have B6 := bthen B5 b6
        go_wp2_with fail
        with_reducible refine Calls.mono (hW2 _ B6) ?_
        rintro e w7 ⟨vb, rfl, ownb, b7⟩
        obtain ⟨pb, cb, rfl, _, _, stb⟩ := own_strs rfl ownb
        have hC := collide_any la lb pa pb ca cb w7 (by omega) (by omega) (sta.below b7) stb hs1 hs2 (hKb _ (bthen B3 (bthen B6 b7)))
        rw [hcoll] at hC
        go_wp2_with fail
        with_reducible refine Calls.mono hC ?_
        rintro e w8 ⟨rfl, b8⟩
        go_wp2
        all_goals (go_ret; exact ⟨rfl, bthen B3 (bthen (bthen B6 b7) b8)⟩)
end Go.Proofs.YtjddmhophamijaaDoor
