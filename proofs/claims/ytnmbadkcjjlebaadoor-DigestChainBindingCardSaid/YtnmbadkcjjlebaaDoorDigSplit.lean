/- DigestSplit: the walk. -/
import Derived.Test.YtnmbadkcjjlebaaDoorDigPrAcc
namespace Go.Proofs.YtnmbadkcjjlebaaDoor
open Go.RowKit

theorem wpList_append_empty {ops : Array Oper} {rest : List Oper} {o : Oper} {a : Act} {W : World} {Q : Exit → Act → World → Prop} (hgd : o.guard = none) (s x : Operand)
    (ho : o.op = .call { callee := .builtin .append, args := #[s, x], argTypes := #[22, 22] }) (g : Nat) (p : Option Addr) (c : Nat) (hs : a.eval s = .slice (some ⟨g, 0, none⟩) 0 0) (hx : a.eval x = .slice p 0 c)
    (h : wpList Tryd.prog ops Q rest (a.put o.dst (.slice (some ⟨g, 0, none⟩) 0 0)) W) : wpList Tryd.prog ops Q (o :: rest) a W :=
  wpList_plain hgd fun _ hK => by
    have hr := run_append_empty W o.type g p c
    unfold Oper.wp execOp
    simp only [ho, resolve, invoke, builtin, Sem.run_bind, Sem.run_pure, Result.andThen_ok, List.map_toArray, List.map_cons, List.map_nil, hs, hx, hr]
    exact hK _ _ h

/-- The list with one entry more, as a slice. -/
theorem own_more {W : World} {base n : Nat} {v : Value} {ss : List ByteArray} (hn : n = ss.length) (h1 : 1 ≤ ss.length) (h : W.ownsRow base 9 1 v n (strv ss)) :
    ∃ g cap, v = .slice (some ⟨g, 0, none⟩) ss.length cap ∧ ss.length ≤ cap ∧ cap ≤ 9223372036854775807 ∧ StrsAt W (some ⟨g, 0, none⟩) ss := by
  subst hn
  have h' := h
  rcases h.2 with ⟨rfl, h0⟩ | ⟨g, cap, cur, rfl, _, _, h2, h3, _⟩
  · omega
  · exact ⟨g, cap, rfl, h2, by unfold maxLen at h3; exact h3, strsAt_own h'⟩

set_option maxRecDepth 100000 in
set_option maxHeartbeats 4000000 in
theorem split_law (ss : List ByteArray) (s : ByteArray) (p : Option Addr) (cap : Nat) (w : World) (hs0 : s.size ≤ 9223372036854775807) (hl : ss.length ≤ 9223372036854775807) (hp : StrsAt w p ss) (hs : ∀ s ∈ ss, s.size ≤ 9223372036854775807) (hK : Keyed w) :
    Calls Tryd.prog 9 #[.slice p ss.length cap, .string s] w fun e w' => e = .returned (.bool true) ∧ Below w.heap.size w w' := by
  have hsane := sane_any w hK
  have hF1 := fun W (hb : Below w.heap.size w W) => few_any ss 40 (by omega) p cap W hl (hp.below hb) hs
  have hKb := fun W (hb : Below w.heap.size w W) => hK.below hb
  clear hp hs hl
  have lP : (fewZ ss 40).length ≤ 40 := by rw [fewZ_len]; omega
  have zP := fewZ_size ss 40
  generalize fewZ ss 40 = P at *
  have smP : Small P := fun x hx => by have := zP x hx; omega
  have i1 : (0 : Int) ≤ min (s.size : Int) 60 := by omega
  have i2 : min (s.size : Int) 60 ≤ (s.size : Int) := by omega
  have hcutsz : (s.extract 0 (min (s.size : Int) 60).toNat).size ≤ 60 := by rw [ByteArray.size_extract]; omega
  obtain ⟨t, ht⟩ : ∃ t, s.extract 0 (min (s.size : Int) 60).toNat = t := ⟨_, rfl⟩
  rw [ht] at hcutsz
  have smM : Small (P ++ [t]) := fun x hx => by
    rcases List.mem_append.1 hx with h | h
    · exact smP x h
    · simp at h; subst h; omega
  have lM : (P ++ [t]).length = P.length + 1 := by simp
  obtain ⟨i0, hi0, hz0, hz1, hz2⟩ := info_parts infoStr
  go_enter Tryd.func9, Tryd.ntmps9
  go_wp2_with fail
  refine hsane.mono ?_
  rintro e w1 ⟨rfl, b1⟩
  go_wp2_with fail
  with_reducible refine Calls.mono (hF1 _ b1) ?_
  rintro e w2 ⟨v2, rfl, own2, b2⟩
  obtain ⟨p2, c2, rfl, cl2, cm2, st2⟩ := own_strs rfl own2
  have B2 := bthen b1 b2
  clear own2 hsane hF1
  have own5 : (w2.alloc (.cells #[] 9)).ownsRow w2.heap.size 9 1 (.slice (some ⟨w2.heap.size, 0, none⟩) 0 0) 0 [] :=
    ⟨rfl, .inr ⟨w2.heap.size, 0, #[], rfl, Nat.le_refl _, heap_alloc_new _ _, Nat.le_refl _, by unfold maxLen; omega, rfl, rfl⟩⟩
  have hb5 : Below w2.heap.size w2 (w2.alloc (.cells #[] 9)) := (Below.refl _ w2).alloc (Nat.le_refl _) _
  rcases Nat.eq_zero_or_pos P.length with hP0 | hP0
  · obtain rfl : P = [] := List.length_eq_zero_iff.1 hP0
    have hR5b : ((w2.alloc (.cells #[] 9)).alloc (.cells #[.string t] 9)).cell? ⟨w2.heap.size + 1, 0, none⟩ = some (.string t) := (Arr.new' 9 [.string t] (by simp)).cell rfl
    have own5b := own5.alloc (.cells #[.string t] 9)
    have hb5b := hb5.alloc hb5.size (.cells #[.string t] 9)
    go_wp2_with (first | (at_builtin; refine wpList_append_empty rfl _ _ rfl _ p2 c2 rfl rfl ?_) | (at_builtin; refine wpList_append_own _ rfl _ _ 22 rfl w2.heap.size 9 i0 (.string ⟨#[]⟩) 1 16 Tryd.underlying22 hi0 hz0 hz1 hz2 rfl (by decide) _ 0 [] rfl own5b ⟨w2.heap.size + 1, 0, none⟩ 1 1 [.string t] rfl rfl (news_one hR5b) (by simp [Value.oneCell']) (by unfold maxLen; omega) (by omega) (by simp; omega) ?_; intro v9 w9 own9 hgrow9 _) | fail)
    have hb9 : Below w2.heap.size w2 w9 := hb5b.grown hgrow9 hb5b.size (own_le own5b)
    obtain ⟨gg9, cap9, rfl, clM, cmM, stM⟩ := own_more (ss := [t]) (n := 1) rfl (by simp) (by simpa [strv] using own9)
    have B9 := bthen B2 hb9
    have hKb9 := fun W (hb : Below w9.heap.size w9 W) => hKb W (bthen B9 hb)
    have hRM := fun W (hb : Below w9.heap.size w9 W) => root_any 1 [t] (some ⟨gg9, 0, none⟩) cap9 W (by simp) (by simp) clM cmM (stM.below hb) smM (hKb9 W hb)
    have hRP := fun W (hb : Below w9.heap.size w9 W) => root_any 0 [] p2 c2 W (by simp) (by simp) (by simp) cm2 (fun i hi => by simp at hi) (fun x hx => by simp at hx) (hKb9 W hb)
    have hver := verify_zero (l := [t]) (by simp)
    have hV := fun W (hb : Below w9.heap.size w9 W) => verifyExt_any (rootZ []) 0 (rootZ [t]) 1 [] none 0 W (by omega) (by omega) (by omega) (by omega) (by rw [rootZ_size]; omega) (by rw [rootZ_size]; omega) (by simp) (by simp) (by omega) (fun i hi => by simp at hi) (fun x hx => by simp at hx) (hKb9 W hb)
    have hver' : verifyExtZ (rootZ []) 0 (rootZ [t]) 1 [] = true := hver
    rw [hver'] at hV
    have hLf := fun W (hb : Below w9.heap.size w9 W) => leaf_any t W (by omega) (hKb9 W hb)
    rw [← rootZ_one] at hLf
    have hSm := fun W (hb : Below w9.heap.size w9 W) => Sum_any ⟨#[]⟩ W (by decide) (hKb9 W hb)
    rw [← rootZ_nil] at hSm
    clear hver hver'
    generalize rootZ [t] = R1 at *
    generalize rootZ [] = R0 at *
    have hE := fun W => ext_zero 1 (some ⟨gg9, 0, none⟩) cap9 W (by omega)
    go_wp2_with (go_at_call 14; with_reducible refine Calls.mono (hE _) ?_; rintro e w10 ⟨rfl, rfl⟩)
    with_reducible refine Calls.mono (hRP _ (Below.refl _ _)) ?_; rintro e x1 ⟨rfl, z1⟩
    go_wp2_with fail
    with_reducible refine Calls.mono (hRM _ z1) ?_; rintro e x2 ⟨rfl, z2⟩
    have y2 := bthen z1 z2
    go_wp2_with fail
    with_reducible refine Calls.mono (hV _ y2) ?_; rintro e x3 ⟨rfl, z3⟩
    have y3 := bthen y2 z3
    go_wp2_with fail
    with_reducible refine Calls.mono (hRM _ y3) ?_; rintro e x4 ⟨rfl, z4⟩
    have y4 := bthen y3 z4
    go_wp2_with fail
    with_reducible refine Calls.mono (hLf _ y4) ?_; rintro e x5 ⟨rfl, z5⟩
    have y5 := bthen y4 z5
    go_wp2_with fail
    with_reducible refine Calls.mono (hRP _ y5) ?_; rintro e x6 ⟨rfl, z6⟩
    have y6 := bthen y5 z6
    go_wp2_with fail
    with_reducible refine Calls.mono (hSm _ y6) ?_; rintro e x7 ⟨rfl, z7⟩
    go_wp2
    go_ret
    exact ⟨rfl, bthen B9 (bthen y6 z7)⟩
  · obtain ⟨b4', o4, rfl⟩ := st2.some hP0
    have hnews : ∀ j u, (strv P)[j]? = some u → (w2.alloc (.cells #[] 9)).cell? ((⟨b4', o4, none⟩ : Addr).add j) = some u := by
      intro j u hj
      have hjl : j < P.length := by have := (List.getElem?_eq_some_iff.1 hj).1; simpa [strv] using this
      obtain ⟨bb, oo, e, hcx⟩ := st2 j hjl
      cases e
      have hadd : (⟨b4', o4, none⟩ : Addr).add j = ⟨b4', o4 + j, none⟩ := by unfold Addr.add; split <;> simp_all
      rw [hadd, hb5.cell (p := ⟨b4', o4 + j, none⟩) (cell_lt' hcx), hcx]
      simp [strv, List.getElem?_eq_getElem hjl] at hj
      rw [hj]
    go_wp2_with (first
      | (at_builtin; refine wpList_append_own _ rfl _ _ 22 rfl w2.heap.size 9 i0 (.string ⟨#[]⟩) 1 16 Tryd.underlying22 hi0 hz0 hz1 hz2 rfl (by decide) _ _ _ rfl (own8.alloc _) ⟨w8.heap.size, 0, none⟩ 1 1 [.string t] rfl rfl (Arr.news4 _ _ _) (by simp [Value.oneCell']) (by unfold maxLen; omega) (by omega) (by have := hb8.size; simp; omega) ?_; intro v9 w9 own9 hgrow9 _)
      | (at_builtin; refine wpList_append_own _ rfl _ _ 22 rfl w2.heap.size 9 i0 (.string ⟨#[]⟩) 1 16 Tryd.underlying22 hi0 hz0 hz1 hz2 rfl (by decide) _ 0 [] rfl own5 ⟨b4', o4, none⟩ P.length c2 (strv P) rfl (by simp [strv]) hnews (by simp [strv, Value.oneCell']) (by unfold maxLen; omega) (by omega) (by simp) ?_; intro v8 w8 own8 hgrow8 _; have hb8 : Below w2.heap.size w2 w8 := hb5.grown hgrow8 hb5.size (own_le own5))
      | fail)
    have hb9 : Below w2.heap.size w2 w9 := (hb8.alloc hb8.size _).grown hgrow9 (by have := hb8.size; simp; omega) (own_le own8)
    obtain ⟨gg9, cap9, rfl, clM, cmM, stM⟩ := own_more (ss := P ++ [t]) (n := 0 + P.length + 1) (by simp) (by simp) (by simpa [strv] using own9)
    have B9 := bthen B2 hb9
    have hKb9 := fun W (hb : Below w9.heap.size w9 W) => hKb W (bthen B9 hb)
    have st9 := st2.below hb9
    obtain ⟨N1, hN1⟩ : ∃ N1, P.length + 1 = N1 := ⟨_, rfl⟩
    rw [hN1] at lM
    rw [lM]
    have hver := verify_part (l := P ++ [t]) (m := P.length) hP0 (by omega) (by omega)
    rw [List.take_left, lM] at hver
    have hRM := fun W (hb : Below w9.heap.size w9 W) => root_any N1 (P ++ [t]) (some ⟨gg9, 0, none⟩) cap9 W (by omega) (by omega) clM cmM (stM.below hb) smM (hKb9 W hb)
    have hRP := fun W (hb : Below w9.heap.size w9 W) => root_any P.length P (some ⟨b4', o4, none⟩) c2 W (by omega) (by omega) cl2 cm2 (st9.below hb) smP (hKb9 W hb)
    have hE := ext_in (P ++ [t]) P.length (some ⟨gg9, 0, none⟩) cap9 w9 hP0 (by omega) (by omega) clM cmM stM smM (hKb9 _ (Below.refl _ _))
    obtain ⟨K, hKe⟩ : ∃ K, splitZ N1 = K := ⟨_, rfl⟩
    have hKs := splitZ_spec (n := N1) (by omega) (by omega)
    have hlf := fun W => left_any N1 (by omega) (by omega) W
    have hroot := rootZ_two (l := P ++ [t]) (by omega) (by omega)
    rw [lM] at hroot hRM hE clM
    rw [hKe] at hKs hlf hroot
    have hRA := fun W (hb : Below w9.heap.size w9 W) => root_any K ((P ++ [t]).take K) (some ⟨gg9, 0, none⟩) cap9 W (by rw [List.length_take]; omega) (by rw [List.length_take]; omega) (by rw [List.length_take]; omega) cmM ((stM.below hb).take _) (smM.take _) (hKb9 W hb)
    have hRB := fun W (hb : Below w9.heap.size w9 W) => root_any N1 ((P ++ [t]).drop K) (some ⟨gg9, 0 + K, none⟩) (cap9 - K) W (by rw [List.length_drop]; omega) (by rw [List.length_drop]; omega) (by rw [List.length_drop]; omega) (by omega) ((stM.below hb).drop _) (fun x hx => smM x (List.mem_of_mem_drop hx)) (hKb9 W hb)
    rw [List.length_take, show min K (P ++ [t]).length = K by omega] at hRA
    rw [List.length_drop, lM, Nat.zero_add] at hRB
    have szX := part_size N1 (P ++ [t]) P.length true (by omega)
    have lX : (partZ (P ++ [t]) P.length true).length ≤ 60 := by have := partZ_len N1 (P ++ [t]) P.length true (by omega); omega
    obtain ⟨X, hX⟩ : ∃ X, partZ (P ++ [t]) P.length true = X := ⟨_, rfl⟩
    rw [hX] at hver hE szX lX
    obtain ⟨R1, hR1⟩ : ∃ R1, rootZ (P ++ [t]) = R1 := ⟨_, rfl⟩
    obtain ⟨R0, hR0⟩ : ∃ R0, rootZ P = R0 := ⟨_, rfl⟩
    obtain ⟨RA, hRAe⟩ : ∃ RA, rootZ ((P ++ [t]).take K) = RA := ⟨_, rfl⟩
    obtain ⟨RB, hRBe⟩ : ∃ RB, rootZ ((P ++ [t]).drop K) = RB := ⟨_, rfl⟩
    have s1 : R1.size = 32 := by rw [← hR1]; exact rootZ_size _
    have s0 : R0.size = 32 := by rw [← hR0]; exact rootZ_size _
    have sA : RA.size = 32 := by rw [← hRAe]; exact rootZ_size _
    have sB : RB.size = 32 := by rw [← hRBe]; exact rootZ_size _
    rw [hR1] at hver hRM hroot
    rw [hR0] at hver hRP
    rw [hRAe] at hRA hroot
    rw [hRBe] at hRB hroot
    have hND := fun W (hb : Below w9.heap.size w9 W) => node_any RA RB W (by omega) (by omega) (hKb9 W hb)
    rw [← hroot] at hND
    have hV := fun p4 c4 W (hb : Below w9.heap.size w9 W) (cl4 : X.length ≤ c4) (cm4 : c4 ≤ 9223372036854775807) (st4 : StrsAt W p4 X) => verifyExt_any R0 P.length R1 N1 X p4 c4 W (by omega) (by omega) (by omega) (by omega) (by omega) (by omega) (by omega) cl4 cm4 st4 (fun x hx => by have := szX x hx; omega) (hKb9 W hb)
    rw [hver] at hV
    have d0 : ((P.length : Int) == 0) = false := by rw [beq_eq_false_iff_ne]; omega
    have k0 : (0 : Int) ≤ (K : Int) := by omega
    have k1 : (K : Int) ≤ (N1 : Int) := by omega
    have k2 : (N1 : Int) ≤ (cap9 : Int) := by omega
    have k3 : (K : Int) ≤ (cap9 : Int) := by omega
    have k4 : ¬ cap9 = K := by omega
    clear hver hroot hR1 hR0 hRAe hRBe hX szX hKe hN1 lM own9 hgrow9 own8 hgrow8 hnews own5 stM
    go_wp2_with fail
    with_reducible refine Calls.mono hE ?_; rintro e w10 ⟨v10, rfl, own10, b10⟩
    obtain ⟨p10, c10, rfl, cl10, cm10, st10⟩ := own_strs rfl own10
    clear own10 hE
    go_wp2_with fail
    with_reducible refine Calls.mono (hRP _ b10) ?_; rintro e x1 ⟨rfl, z1⟩
    have y1 := bthen b10 z1
    go_wp2_with fail
    with_reducible refine Calls.mono (hRM _ y1) ?_; rintro e x2 ⟨rfl, z2⟩
    have y2 := bthen y1 z2
    go_wp2_with fail
    with_reducible refine Calls.mono (hV p10 c10 _ y2 cl10 cm10 (st10.below (bthen z1 z2))) ?_; rintro e x3 ⟨rfl, z3⟩
    have y3 := bthen y2 z3
    go_wp2_with (go_at_call 28; with_reducible refine Calls.mono (hlf _) ?_; rintro e x4 ⟨rfl, rfl⟩)
    have y3d := y3.drew
    go_region_held3 (fun w' => Below w9.heap.size w9 w') (first | assumption | exact y3d | exact bthen (by assumption) z5 | exact bthen (by assumption) z6 | exact bthen (by assumption) z7 | exact bthen (by assumption) z8 | fail)
      (first | (go_at_call 17; with_reducible refine Calls.mono (hRM _ (by assumption)) ?_; rintro e x5 ⟨rfl, z5⟩) | (go_at_call 17; with_reducible refine Calls.mono (hRA _ (by assumption)) ?_; rintro e x6 ⟨rfl, z6⟩) | (go_at_call 17; with_reducible refine Calls.mono (hRB _ (by assumption)) ?_; rintro e x7 ⟨rfl, z7⟩) | (go_at_call 29; with_reducible refine Calls.mono (hND _ (by assumption)) ?_; rintro e x8 ⟨rfl, z8⟩) | fail)
    all_goals
      have hz := (show Below w9.heap.size w9 x8 by assumption)
      go_wp2
      go_ret
      exact ⟨rfl, bthen B9 hz⟩
end Go.Proofs.YtnmbadkcjjlebaaDoor
