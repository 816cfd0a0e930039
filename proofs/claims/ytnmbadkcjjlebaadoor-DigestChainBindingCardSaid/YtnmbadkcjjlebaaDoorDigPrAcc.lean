/- DigestProofAccepted: the walk. -/
import Derived.Test.YtnmbadkcjjlebaaDoorDigExtAcc
import Derived.Deep.AppendLies
namespace Go.Proofs.YtnmbadkcjjlebaaDoor
open Go.RowKit

theorem verify_path {l : List ByteArray} {i : Nat} (h2 : i < l.length) (h3 : l.length ≤ 900) : verifyZ (rootZ l) l.length i (l.getD i ⟨#[]⟩) (pathZ l i) = true := by
  unfold verifyZ
  have hp := path_accept l.length l i (Nat.le_refl _) h2 (by omega)
  rw [allDig_of (path_size l.length l i (Nat.le_refl _)), show (i : Int).toNat = i from rfl, show (l.length : Int).toNat = l.length from rfl, hp]
  rw [show decide ((0 : Int) ≤ (i : Int)) = true from decide_eq_true (by omega), show decide ((i : Int) < (l.length : Int)) = true from decide_eq_true (by omega), strEq_refl]
  rfl
theorem verify_other {l : List ByteArray} {i : Nat} (h2 : i < l.length) (h3 : l.length ≤ 900) {q : List ByteArray} (hq : q.length ≠ (pathZ l i).length) : verifyZ (rootZ l) l.length i (l.getD i ⟨#[]⟩) q = false := by
  have hp := path_accept l.length l i (Nat.le_refl _) h2 (by omega)
  cases hv : verifyZ (rootZ l) l.length i (l.getD i ⟨#[]⟩) q with
  | false => rfl
  | true =>
    unfold verifyZ at hv
    simp only [Bool.and_eq_true] at hv
    have h4 := hv.1.2
    have := climb_len (pathZ l i).reverse q.reverse l.length i (leafZ (l.getD i ⟨#[]⟩)) (leafZ (l.getD i ⟨#[]⟩)) (by rw [hp]) h4
    rw [List.length_reverse, List.length_reverse] at this
    omega
theorem verify_outside2 {r s : ByteArray} {i n : Int} {p : List ByteArray} (h : i < 0 ∨ n ≤ i) : verifyZ r n i s p = false := by
  unfold verifyZ
  rcases h with h | h
  · rw [show decide (0 ≤ i) = false from decide_eq_false (by omega)]; rfl
  · rw [show decide (i < n) = false from decide_eq_false (by omega), Bool.and_false]; rfl
theorem path_short2 {l : List ByteArray} {i : Nat} (h2 : i < l.length) (h3 : l.length ≤ 900) : (pathZ l i).length ≤ binN l.length := by
  have hb := (binN_lt l.length l.length (Nat.le_refl _)).1
  exact path_short (binN l.length) l i (by omega) h2 (by omega)

theorem strsAt_own9 {W : World} {base g n cap : Nat} {ss : List ByteArray} (h : W.ownsRow base 9 1 (.slice (some ⟨g, 0, none⟩) n cap) n (strv ss)) : StrsAt W (some ⟨g, 0, none⟩) ss := by
  have hn : n = ss.length := by have := h.1; simp [strv] at this; omega
  subst hn
  exact strsAt_own h
theorem own_norm {W : World} {base g n cap : Nat} {vs : List Value} (h : W.ownsRow base 9 1 (.slice (some ⟨g, 0, none⟩) (0 + n) cap) (0 + n) ([] ++ vs)) : W.ownsRow base 9 1 (.slice (some ⟨g, 0, none⟩) n cap) n vs := by
  rw [Nat.zero_add, List.nil_append] at h
  exact h
theorem news_one {W : World} {b : Nat} {v : Value} (h : W.cell? ⟨b, 0, none⟩ = some v) : ∀ j u, [v][j]? = some u → W.cell? ((⟨b, 0, none⟩ : Addr).add j) = some u := by
  intro j u hj
  match j, hj with
  | 0, hj =>
    have hadd : (⟨b, 0, none⟩ : Addr).add 0 = ⟨b, 0, none⟩ := by unfold Addr.add; split <;> simp_all
    rw [hadd, h]; simpa using hj
  | j + 1, hj => simp at hj
theorem own_cap {W : World} {base g n cap : Nat} {ss : List ByteArray} (h : W.ownsRow base 9 1 (.slice (some ⟨g, 0, none⟩) n cap) n (strv ss)) : n ≤ cap ∧ cap ≤ 9223372036854775807 := by
  rcases h.2 with ⟨h0, _⟩ | ⟨g', cap', cur, e, _, _, h1, h2, _⟩
  · cases h0
  · cases e; exact ⟨h1, by unfold maxLen at h2; exact h2⟩

theorem run_append_empty (W : World) (ty : TypeId) (g : Nat) (p : Option Addr) (c : Nat) : (Builtin.append_ #[22, 22] ty #[.slice (some ⟨g, 0, none⟩) 0 0, .slice p 0 c]).run Tryd.prog W = .ok (.slice (some ⟨g, 0, none⟩) 0 0) W := by
  obtain ⟨i0, hi0, hz0, hz1, hz2⟩ := info_parts infoStr
  cases p with
  | none => simp [Builtin.append_, run_underlying Tryd.underlying22, sizeOf, typeInfo, hi0, Builtin.lenOf, Builtin.firstCells, storeCells]
  | some ad => simp [Builtin.append_, run_underlying Tryd.underlying22, sizeOf, typeInfo, hi0, Builtin.lenOf, Builtin.firstCells, storeCells, loadCells, loadCellsFrom]
theorem step_append_empty {ops : Array Oper} {o : Oper} {a : Act} {W : World} {K : Act → World → Prop} {Q : Exit → Act → World → Prop} {E : Prop} (hgd : o.guard = none) (s x : Operand)
    (ho : o.op = .call { callee := .builtin .append, args := #[s, x], argTypes := #[22, 22] }) (g : Nat) (p : Option Addr) (c : Nat) (hs : a.eval s = .slice (some ⟨g, 0, none⟩) 0 0) (hx : a.eval x = .slice p 0 c)
    (h : K (a.put o.dst (.slice (some ⟨g, 0, none⟩) 0 0)) W) : if Region.wanted o (yielded ops a.tmps) = true then Oper.wp Tryd.prog o a W K Q else E := by
  have hw : Region.wanted o (yielded ops a.tmps) = true := by simp [Region.wanted, hgd]
  rw [if_pos hw]
  have hr := run_append_empty W o.type g p c
  unfold Oper.wp execOp
  simp only [ho, resolve, invoke, builtin, Sem.run_bind, Sem.run_pure, Result.andThen_ok, List.map_toArray, List.map_cons, List.map_nil, hs, hx, hr]
  exact h

set_option maxRecDepth 100000 in
set_option maxHeartbeats 4000000 in
theorem pracc_law (ss : List ByteArray) (m : Int) (p : Option Addr) (cap : Nat) (w : World) (hm1 : -9223372036854775808 ≤ m) (hm2 : m ≤ 9223372036854775807) (hl : ss.length ≤ 9223372036854775807) (hp : StrsAt w p ss) (hs : ∀ s ∈ ss, s.size ≤ 9223372036854775807) (hK : Keyed w) :
    Calls Tryd.prog 4 #[.slice p ss.length cap, .int .i64 m] w fun e w' => e = .returned (.bool true) ∧ Below w.heap.size w w' := by
  have hsane := sane_any w hK
  have hF1 := fun W (hb : Below w.heap.size w W) => few_any ss 40 (by omega) p cap W hl (hp.below hb) hs
  have hKb := fun W (hb : Below w.heap.size w W) => hK.below hb
  clear hp hs hl
  have lP : (fewZ ss 40).length ≤ 40 := by rw [fewZ_len]; omega
  have zP := fewZ_size ss 40
  generalize fewZ ss 40 = P at *
  have smP : Small P := fun x hx => by have := zP x hx; omega
  go_enter Tryd.func4, Tryd.ntmps4
  go_wp2_with fail
  refine hsane.mono ?_
  rintro e w1 ⟨rfl, b1⟩
  go_wp2_with fail
  with_reducible refine Calls.mono (hF1 _ b1) ?_
  rintro e w2 ⟨v2, rfl, own2, b2⟩
  obtain ⟨p2, c2, rfl, cl2, cm2, st2⟩ := own_strs rfl own2
  have B2 := bthen b1 b2
  have hR := root_any P.length P p2 c2 w2 (Nat.le_refl _) (by omega) cl2 cm2 st2 smP (hKb _ B2)
  clear own2 hsane hF1
  go_wp2_with fail
  with_reducible refine Calls.mono hR ?_
  rintro e w3 ⟨rfl, b3⟩
  have B3 := bthen B2 b3
  have st3 := st2.below b3
  clear hR st2
  have hKb3 := fun W (hb : Below w3.heap.size w3 W) => hKb _ (bthen B3 hb)
  obtain ⟨B, hB⟩ : ∃ B, binN P.length = B := ⟨_, rfl⟩
  have hB25 : B ≤ 40 := by rw [← hB]; have := (binN_lt P.length P.length (Nat.le_refl _)).2; omega
  have hbin := fun W => binary_any P.length (by omega) W
  rw [hB] at hbin
  obtain ⟨R, hR⟩ : ∃ R, rootZ P = R := ⟨_, rfl⟩
  have hRs : R.size = 32 := by rw [← hR]; exact rootZ_size _
  rw [hR]
  go_wp2_with fail
  go_loopw [7] (fun k wr => ∃ K : Nat, k = .int .i64 K ∧ K ≤ P.length ∧ Below w3.heap.size w3 wr) (fun k _ => P.length - (intOf k).toNat)
  case atStart => exact ⟨0, rfl, by omega, Below.refl _ _⟩
  case round =>
    obtain ⟨K, rfl, hK1, hbr⟩ := hrel
    by_cases hKn : K < P.length
    · have d1 : decide ((K : Int) < (P.length : Int)) = true := decide_eq_true (by omega)
      have d1' : decide (K < P.length) = true := decide_eq_true (by omega)
      have i0 : (0 : Int) ≤ (K : Int) := by omega
      have i1 : (K : Int) < (P.length : Int) := by omega
      have hver := verify_path (l := P) (i := K) hKn (by omega)
      have hsh := path_short2 (l := P) (i := K) hKn (by omega)
      have hE := proof_in P K p2 c2 wr hKn (by omega) cl2 cm2 (st3.below hbr) smP (hKb3 _ hbr)
      have szX := path_size P.length P K (Nat.le_refl _)
      obtain ⟨bq, oq, hp2, hcell⟩ := st3 K hKn
      subst hp2
      have hcl := cell_lt' hcell
      have hge : P.getD K ⟨#[]⟩ = P[K] := by rw [List.getD_eq_getElem?_getD, List.getElem?_eq_getElem hKn]; rfl
      rw [hge] at hver
      have hsK : P[K].size ≤ 60 := zP _ (List.getElem_mem hKn)
      rw [hB] at hsh
      rw [hR] at hver
      obtain ⟨X, hX⟩ : ∃ X, pathZ P K = X := ⟨_, rfl⟩
      rw [hX] at hver hsh hE szX
      obtain ⟨s, hsE⟩ : ∃ s, P[K] = s := ⟨_, rfl⟩
      rw [hsE] at hver hsK hcell
      have hV := fun p4 c4 W (hb : Below w3.heap.size w3 W) (cl4 : X.length ≤ c4) (cm4 : c4 ≤ 9223372036854775807) (st4 : StrsAt W p4 X) => verify_any R P.length K s X p4 c4 W (by omega) (by omega) (by omega) (by omega) (by omega) (by omega) cl4 cm4 st4 (fun x hx => by have := szX x hx; omega) (hKb3 W hb)
      rw [hver] at hV
      have f1 : decide ((B : Int) < (X.length : Int)) = false := decide_eq_false (by omega)
      have f2 : decide (B < X.length) = false := decide_eq_false (by omega)
      clear hver hX szX hge hsE hR hB
      go_wp2_with fail
      with_reducible refine Calls.mono hE ?_; rintro e w4 ⟨v4, rfl, own4, b4⟩
      obtain ⟨p4, c4, rfl, cl4, cm4, st4⟩ := own_strs rfl own4
      have hb4 := bthen hbr b4
      have hc4 := (hb4.cell (p := ⟨bq, oq + K, none⟩) hcl).trans hcell
      clear own4 hE
      go_wp2_with (go_at_call 19; with_reducible refine Calls.mono (hbin _) ?_; rintro e w5 ⟨rfl, rfl⟩)
      with_reducible refine Calls.mono (hV p4 c4 _ hb4 cl4 cm4 st4) ?_; rintro e w7 ⟨rfl, b7⟩
      go_wp2
      go_roundw
      case rel => exact ⟨K + 1, by go_num, by omega, bthen hb4 b7⟩
      case measure => simp [intOf]; omega
    · obtain rfl : K = P.length := by omega
      have hbr3 := bthen B3 hbr
      have d1 : decide ((P.length : Int) < (P.length : Int)) = false := decide_eq_false (by omega)
      rcases (by omega : (m < 0 ∨ (P.length : Int) ≤ m) ∨ (0 ≤ m ∧ m < (P.length : Int))) with hm | ⟨hma, hmb⟩
      · have hV := verify_any R P.length m ⟨#[]⟩ [] none 0 wr (by omega) (by omega) hm1 hm2 (by decide) (by simp) (by simp) (by omega) (fun i hi => by simp at hi) (fun x hx => by simp at hx) (hKb3 _ hbr)
        rw [verify_outside2 hm] at hV
        have hE := proof_out P.length m p2 c2 wr hm hm1 hm2 (by omega)
        clear hR hB
        rcases hm with hm | hm
        · have e1 : decide (0 ≤ m) = false := decide_eq_false (by omega)
          go_wp2_with fail
          with_reducible refine Calls.mono hE ?_; rintro e w4 ⟨rfl, rfl⟩
          go_wp2_with fail
          with_reducible refine Calls.mono hV ?_; rintro e w5 ⟨rfl, b5⟩
          go_wp2
          go_ret
          exact ⟨rfl, bthen hbr3 b5⟩
        · have e1 : decide (0 ≤ m) = true := decide_eq_true (by omega)
          have e2 : decide (m < (P.length : Int)) = false := decide_eq_false (by omega)
          go_wp2_with fail
          with_reducible refine Calls.mono hE ?_; rintro e w4 ⟨rfl, rfl⟩
          go_wp2_with fail
          with_reducible refine Calls.mono hV ?_; rintro e w5 ⟨rfl, b5⟩
          go_wp2
          go_ret
          exact ⟨rfl, bthen hbr3 b5⟩
      · obtain ⟨M, rfl⟩ : ∃ M : Nat, m = (M : Int) := ⟨m.toNat, by omega⟩
        have hMn : M < P.length := by omega
        have e1 : decide ((0 : Int) ≤ (M : Int)) = true := decide_eq_true (by omega)
        have e2 : decide ((M : Int) < (P.length : Int)) = true := decide_eq_true (by omega)
        have e2' : decide (M < P.length) = true := decide_eq_true (by omega)
        have hE := proof_in P M p2 c2 wr hMn (by omega) cl2 cm2 (st3.below hbr) smP (hKb3 _ hbr)
        have szX := path_size P.length P M (Nat.le_refl _)
        have lX : (pathZ P M).length ≤ 40 := by have := path_short2 (l := P) (i := M) hMn (by omega); omega
        obtain ⟨bq, oq, hp2, hcell⟩ := st3 M hMn
        subst hp2
        have hcl := cell_lt' hcell
        have hge : P.getD M ⟨#[]⟩ = P[M] := by rw [List.getD_eq_getElem?_getD, List.getElem?_eq_getElem hMn]; rfl
        have hsM : P[M].size ≤ 60 := zP _ (List.getElem_mem hMn)
        have hlo := verify_other (l := P) (i := M) hMn (by omega) (q := pathZ P M ++ [R]) (by simp)
        have hsho : 1 ≤ (pathZ P M).length → verifyZ (rootZ P) P.length M (P.getD M ⟨#[]⟩) ((pathZ P M).drop 1) = false := fun h => verify_other (l := P) (i := M) hMn (by omega) (by rw [List.length_drop]; omega)
        rw [hge, hR] at hlo hsho
        obtain ⟨X, hX⟩ : ∃ X, pathZ P M = X := ⟨_, rfl⟩
        rw [hX] at hlo hsho hE szX lX
        obtain ⟨s, hsE⟩ : ∃ s, P[M] = s := ⟨_, rfl⟩
        rw [hsE] at hlo hsho hsM hcell
        have hV := fun Y p4 c4 W (hb : Below w3.heap.size w3 W) (hY : Y.length ≤ 1000) (cl4 : Y.length ≤ c4) (cm4 : c4 ≤ 9223372036854775807) (st4 : StrsAt W p4 Y) (sm : Small Y) => verify_any R P.length M s Y p4 c4 W (by omega) (by omega) (by omega) (by omega) (by omega) hY cl4 cm4 st4 sm (hKb3 W hb)
        have smX : Small X := fun x hx => by have := szX x hx; omega
        have smXR : Small (X ++ [R]) := fun x hx => by
          rcases List.mem_append.1 hx with h | h
          · exact smX x h
          · simp at h; subst h; omega
        have HV := Lib.hid hV
        have HL := Lib.hid hlo
        have HS := Lib.hid hsho
        clear hV hlo hsho hX szX hge hsE hR hB hma hmb hbin
        go_wp2_with fail
        with_reducible refine Calls.mono hE ?_; rintro e w4 ⟨v4, rfl, own4, b4⟩
        obtain ⟨p4, c4, rfl, cl4, cm4, st4⟩ := own_strs rfl own4
        have hb4 := bthen hbr b4
        have hc4 := (hb4.cell (p := ⟨bq, oq + M, none⟩) hcl).trans hcell
        have hcl4 : bq < w4.heap.size := by have := hb4.size; omega
        clear own4 hE
        obtain ⟨i0, hi0, hz0, hz1, hz2⟩ := info_parts infoStr
        have j0 : (0 : Int) ≤ (M : Int) := by omega
        have j1 : (M : Int) < (P.length : Int) := by omega
        rcases Nat.eq_zero_or_pos X.length with hX0 | hX0
        · obtain rfl : X = [] := List.length_eq_zero_iff.1 hX0
          have own5 : (w4.drew.alloc (.cells #[] 9)).ownsRow w4.heap.size 9 1 (.slice (some ⟨w4.heap.size, 0, none⟩) 0 0) 0 [] :=
            ⟨rfl, .inr ⟨w4.heap.size, 0, #[], rfl, Nat.le_refl _, heap_alloc_new _ _, Nat.le_refl _, by unfold maxLen; omega, rfl, rfl⟩⟩
          have hb5 : Below w4.heap.size w4 (w4.drew.alloc (.cells #[] 9)) := (Below.refl _ w4).drew.alloc (Nat.le_refl _) _
          have own5b := own5.alloc (.cells #[.string R] 9)
          have hb5b := hb5.alloc hb5.size (.cells #[.string R] 9)
          have hR5b : ((w4.drew.alloc (.cells #[] 9)).alloc (.cells #[.string R] 9)).cell? ⟨w4.heap.size + 1, 0, none⟩ = some (.string R) := (Arr.new' 9 [.string R] (by simp)).cell rfl
          have hb5c1 : Below w4.heap.size w4 (w4.drew.alloc (.cells #[.string R] 9)) := (Below.refl _ w4).drew.alloc (Nat.le_refl _) _
          have hb5c := hb5c1.alloc hb5c1.size (.cells #[] 9)
          have own5c : ((w4.drew.alloc (.cells #[.string R] 9)).alloc (.cells #[] 9)).ownsRow w4.heap.size 9 1 (.slice (some ⟨w4.heap.size + 1, 0, none⟩) 0 0) 0 [] :=
            ⟨rfl, .inr ⟨w4.heap.size + 1, 0, #[], rfl, by omega, Arr.new' 9 [] (by simp), Nat.le_refl _, by unfold maxLen; omega, rfl, rfl⟩⟩
          have hR5c : ((w4.drew.alloc (.cells #[.string R] 9)).alloc (.cells #[] 9)).cell? ⟨w4.heap.size, 0, none⟩ = some (.string R) := ((Arr.new w4.drew 9 [.string R]).alloc _).cell rfl
          have HV1 : Hid (∀ g c (W : World), StrsAt W (some ⟨g, 0, none⟩) [R] → Below w4.heap.size w4 W → (1 ≤ c ∧ c ≤ 9223372036854775807) → Calls Tryd.prog 20 #[.string R, .int .i64 P.length, .int .i64 M, .string s, .slice (some ⟨g, 0, none⟩) 1 c] W fun e w' => e = .returned (.bool false) ∧ Below W.heap.size W w') := Lib.hid (fun g c W h1 h2 h3 => by
            have := HV.out [R] (some ⟨g, 0, none⟩) c W (bthen hb4 h2) (by simp) (by simpa using h3.1) h3.2 h1 (fun x hx => smXR x (by simpa using hx))
            have hl := HL.out
            rw [List.nil_append] at hl
            rw [hl] at this
            exact this)
          have hS4 : w4.drew.cell? ⟨bq, oq + M, none⟩ = some (.string s) ∧ Below w4.heap.size w4 w4.drew := ⟨hc4, (Below.refl _ w4).drew⟩
          go_wp2_with fail
          go_region_held3 (fun w' => w'.cell? ⟨bq, oq + M, none⟩ = some (.string s) ∧ Below w4.heap.size w4 w') (first | assumption | exact hS4 | exact heldAlloc (a := ⟨bq, oq + M, none⟩) hcl4 (by assumption) _ | exact ⟨(hb10.cell (p := ⟨bq, oq + M, none⟩) hcl4).trans hc4, hb10⟩ | exact heldAppend (a := ⟨bq, oq + M, none⟩) hcl4 (by assumption) hgrow9 own5b | exact heldAppend (a := ⟨bq, oq + M, none⟩) hcl4 (by assumption) hgrow9 own5c | fail)
            (first
              | (go_at_call 20; with_reducible refine Calls.mono (HV1.out gg9 cap9 w9 st9 hb9 hcap9) ?_; rintro e w10 ⟨rfl, b10⟩; have hb10 := bthen hb9 b10)
              | (refine step_append_lies _ (by rfl) _ _ 22 (by rfl) w4.heap.size 9 i0 (.string ⟨#[]⟩) 1 16 Tryd.underlying22 hi0 hz0 hz1 hz2 rfl (by omega) _ 0 [] (by rfl) own5b ⟨w4.heap.size + 1, 0, none⟩ 1 1 [.string R] (by rfl) (by rfl) (news_one hR5b) (by simp [Value.oneCell']) (by omega) (by unfold maxLen; omega) (by omega) (by simp; omega) (w4.heap.size + 1 + 1) (by simp) ?_; intro gg9 cap9 w9 own9 hgrow9 hat9 hlt9; rw [Nat.zero_add]; have hb9 : Below w4.heap.size w4 w9 := hb5b.grown hgrow9 hb5b.size (own_le own5b); have st9 : StrsAt w9 (some ⟨gg9, 0, none⟩) [R] := strsAt_own9 (by simpa [strv] using own9); have hcap9 := own_cap (ss := [R]) (by simpa [strv] using own9))
              | (refine step_append_lies _ (by rfl) _ _ 22 (by rfl) w4.heap.size 9 i0 (.string ⟨#[]⟩) 1 16 Tryd.underlying22 hi0 hz0 hz1 hz2 rfl (by omega) _ 0 [] (by rfl) own5c ⟨w4.heap.size, 0, none⟩ 1 1 [.string R] (by rfl) (by rfl) (news_one hR5c) (by simp [Value.oneCell']) (by omega) (by unfold maxLen; omega) (by omega) (by simp; omega) (w4.heap.size + 1 + 1) (by simp) ?_; intro gg9 cap9 w9 own9 hgrow9 hat9 hlt9; rw [Nat.zero_add]; have hb9 : Below w4.heap.size w4 w9 := hb5c.grown hgrow9 hb5c.size (own_le own5c); have st9 : StrsAt w9 (some ⟨gg9, 0, none⟩) [R] := strsAt_own9 (by simpa [strv] using own9); have hcap9 := own_cap (ss := [R]) (by simpa [strv] using own9))
              | (refine step_append_empty (by rfl) _ _ (by rfl) _ p4 c4 (by rfl) (by rfl) ?_)
              | fail)
          all_goals
            have hS10 := (show w10.cell? ⟨bq, oq + M, none⟩ = some (.string s) ∧ Below w4.heap.size w4 w10 by assumption)
            have hS10d : w10.drew.cell? ⟨bq, oq + M, none⟩ = some (.string s) ∧ Below w4.heap.size w4 w10.drew := ⟨hS10.1, hS10.2.drew⟩
            have x0 : decide ((0 : Int) < 0) = false := rfl
            have x0' : decide ((0 : Nat) < 0) = false := rfl
            go_wp2_with fail
            go_quiet (fail)
            go_wp2
            go_ret
            exact ⟨rfl, bthen (bthen hbr3 b4) (below_drewN hS10.2 _)⟩
        · obtain ⟨b4', o4, rfl⟩ := st4.some hX0
          have x1 : decide ((0 : Int) < (X.length : Int)) = true := decide_eq_true (by omega)
          have x1' : decide (0 < X.length) = true := decide_eq_true hX0
          have x2 : (1 : Int) ≤ (X.length : Int) := by omega
          have x3 : (X.length : Int) ≤ (c4 : Int) := by omega
          have own5 : (w4.drew.alloc (.cells #[] 9)).ownsRow w4.heap.size 9 1 (.slice (some ⟨w4.heap.size, 0, none⟩) 0 0) 0 [] :=
            ⟨rfl, .inr ⟨w4.heap.size, 0, #[], rfl, Nat.le_refl _, heap_alloc_new _ _, Nat.le_refl _, by unfold maxLen; omega, rfl, rfl⟩⟩
          have hb5 : Below w4.heap.size w4 (w4.drew.alloc (.cells #[] 9)) := (Below.refl _ w4).drew.alloc (Nat.le_refl _) _
          have hnewsG : ∀ W, Below w4.heap.size w4 W → ∀ j u, (strv X)[j]? = some u → W.cell? ((⟨b4', o4, none⟩ : Addr).add j) = some u := by
            intro W hbW j u hj
            have hjl : j < X.length := by have := (List.getElem?_eq_some_iff.1 hj).1; simpa [strv] using this
            obtain ⟨bb, oo, e, hcx⟩ := st4 j hjl
            cases e
            have hadd : (⟨b4', o4, none⟩ : Addr).add j = ⟨b4', o4 + j, none⟩ := by unfold Addr.add; split <;> simp_all
            rw [hadd, hbW.cell (p := ⟨b4', o4 + j, none⟩) (cell_lt' hcx), hcx]
            simp [strv, List.getElem?_eq_getElem hjl] at hj
            rw [hj]
          have hnews := hnewsG _ hb5
          have own5b := own5.alloc (.cells #[.string R] 9)
          have hb5b := hb5.alloc hb5.size (.cells #[.string R] 9)
          have hnewsb := hnewsG _ hb5b
          have hR5b : ((w4.drew.alloc (.cells #[] 9)).alloc (.cells #[.string R] 9)).cell? ⟨w4.heap.size + 1, 0, none⟩ = some (.string R) := (Arr.new' 9 [.string R] (by simp)).cell rfl
          have hb5c1 : Below w4.heap.size w4 (w4.drew.alloc (.cells #[.string R] 9)) := (Below.refl _ w4).drew.alloc (Nat.le_refl _) _
          have hb5c := hb5c1.alloc hb5c1.size (.cells #[] 9)
          have own5c : ((w4.drew.alloc (.cells #[.string R] 9)).alloc (.cells #[] 9)).ownsRow w4.heap.size 9 1 (.slice (some ⟨w4.heap.size + 1, 0, none⟩) 0 0) 0 [] :=
            ⟨rfl, .inr ⟨w4.heap.size + 1, 0, #[], rfl, by omega, Arr.new' 9 [] (by simp), Nat.le_refl _, by unfold maxLen; omega, rfl, rfl⟩⟩
          have hnewsc := hnewsG _ hb5c
          have hR5c : ((w4.drew.alloc (.cells #[.string R] 9)).alloc (.cells #[] 9)).cell? ⟨w4.heap.size, 0, none⟩ = some (.string R) := ((Arr.new w4.drew 9 [.string R]).alloc _).cell rfl
          have hlXR : (X ++ [R]).length = X.length + 1 := by simp
          have HV1 : Hid (∀ g c (W : World), StrsAt W (some ⟨g, 0, none⟩) (X ++ [R]) → Below w4.heap.size w4 W → (X.length + 1 ≤ c ∧ c ≤ 9223372036854775807) → Calls Tryd.prog 20 #[.string R, .int .i64 P.length, .int .i64 M, .string s, .slice (some ⟨g, 0, none⟩) (X.length + 1) c] W fun e w' => e = .returned (.bool false) ∧ Below W.heap.size W w') := Lib.hid (fun g c W h1 h2 h3 => by
            have := HV.out (X ++ [R]) (some ⟨g, 0, none⟩) c W (bthen hb4 h2) (by omega) (by omega) h3.2 h1 smXR
            rw [HL.out, hlXR] at this
            exact this)
          have hdrop1 : ∀ W, Below w4.heap.size w4 W → StrsAt W (some ⟨b4', o4 + 1, none⟩) (X.drop 1) := fun W h => (st4.below h).drop 1
          have HV2 : Hid (∀ q (W : World), (W.cell? ⟨bq, oq + M, none⟩ = some (.string s) ∧ Below w4.heap.size w4 W) → (q = some ⟨b4', o4 + 1, none⟩ ∨ X.length = 1) → Calls Tryd.prog 20 #[.string R, .int .i64 P.length, .int .i64 M, .string s, .slice q (X.length - 1) (c4 - 1)] W fun e w' => e = .returned (.bool false) ∧ Below W.heap.size W w') := Lib.hid (fun q W h hq => by
            have hd : StrsAt W q (X.drop 1) := by
              rcases hq with rfl | hq
              · exact hdrop1 W h.2
              · intro i hi; rw [List.length_drop] at hi; omega
            have := HV.out (X.drop 1) q (c4 - 1) W (bthen hb4 h.2) (by rw [List.length_drop]; omega) (by rw [List.length_drop]; omega) (by omega) hd (fun x hx => smX x (List.mem_of_mem_drop hx))
            rw [HS.out hX0, List.length_drop] at this
            exact this)
          clear hdrop1
          have hS4 : w4.drew.cell? ⟨bq, oq + M, none⟩ = some (.string s) ∧ Below w4.heap.size w4 w4.drew := ⟨hc4, (Below.refl _ w4).drew⟩
          go_wp2_with fail
          go_region_held3 (fun w' => w'.cell? ⟨bq, oq + M, none⟩ = some (.string s) ∧ Below w4.heap.size w4 w') (first | assumption | exact hS4 | exact heldAlloc (a := ⟨bq, oq + M, none⟩) hcl4 (by assumption) _ | exact heldAppend (a := ⟨bq, oq + M, none⟩) hcl4 (by assumption) hgrow8 own5 | exact heldAppend (a := ⟨bq, oq + M, none⟩) hcl4 (by assumption) hgrow8 own5b | exact heldAppend (a := ⟨bq, oq + M, none⟩) hcl4 (by assumption) hgrow8 own5c | exact heldAppend (a := ⟨bq, oq + M, none⟩) hcl4 (by assumption) hgrow9 own8' | exact ⟨(hb10.cell (p := ⟨bq, oq + M, none⟩) hcl4).trans hc4, hb10⟩ | exact heldAppend (a := ⟨bq, oq + M, none⟩) hcl4 (by assumption) hgrow9 (own8'.alloc _) | fail)
            (first
              | (go_at_call 20; with_reducible refine Calls.mono (HV1.out gg9 cap9 w9 st9 hb9 hcap9) ?_; rintro e w10 ⟨rfl, b10⟩; have hb10 := bthen hb9 b10)
              | (refine step_append_lies _ (by rfl) _ _ 22 (by rfl) w4.heap.size 9 i0 (.string ⟨#[]⟩) 1 16 Tryd.underlying22 hi0 hz0 hz1 hz2 rfl (by omega) _ X.length (strv X) (by rfl) (own8'.alloc _) ⟨w8.heap.size, 0, none⟩ 1 1 [.string R] (by rfl) (by rfl) (Arr.news4 _ _ _) (by simp [Value.oneCell']) (by omega) (by unfold maxLen; omega) (by omega) (by have := hb8.size; simp; omega) (w8.heap.size + 1) (by simp) ?_; intro gg9 cap9 w9 own9 hgrow9 hat9 hlt9; have hb9 : Below w4.heap.size w4 w9 := hb8.alloc hb8.size _ |>.grown hgrow9 (by have := hb8.size; simp; omega) (own_le own8'); have st9 : StrsAt w9 (some ⟨gg9, 0, none⟩) (X ++ [R]) := strsAt_own9 (by simpa [strv] using own9); have hcap9 := own_cap (ss := X ++ [R]) (by simpa [strv] using own9))
              | (refine step_append_lies _ (by rfl) _ _ 22 (by rfl) w4.heap.size 9 i0 (.string ⟨#[]⟩) 1 16 Tryd.underlying22 hi0 hz0 hz1 hz2 rfl (by omega) _ X.length (strv X) (by rfl) own8' ⟨w4.heap.size + 1, 0, none⟩ 1 1 [.string R] (by rfl) (by rfl) (news_one hR8) (by simp [Value.oneCell']) (by omega) (by unfold maxLen; omega) (by omega) hb8.size w8.heap.size (by rfl) ?_; intro gg9 cap9 w9 own9 hgrow9 hat9 hlt9; have hb9 : Below w4.heap.size w4 w9 := hb8.grown hgrow9 hb8.size (own_le own8'); have st9 : StrsAt w9 (some ⟨gg9, 0, none⟩) (X ++ [R]) := strsAt_own9 (by simpa [strv] using own9); have hcap9 := own_cap (ss := X ++ [R]) (by simpa [strv] using own9))
              | (refine step_append_lies _ (by rfl) _ _ 22 (by rfl) w4.heap.size 9 i0 (.string ⟨#[]⟩) 1 16 Tryd.underlying22 hi0 hz0 hz1 hz2 rfl (by omega) _ X.length (strv X) (by rfl) own8' ⟨w4.heap.size, 0, none⟩ 1 1 [.string R] (by rfl) (by rfl) (news_one hR9) (by simp [Value.oneCell']) (by omega) (by unfold maxLen; omega) (by omega) hb8.size w8.heap.size (by rfl) ?_; intro gg9 cap9 w9 own9 hgrow9 hat9 hlt9; have hb9 : Below w4.heap.size w4 w9 := hb8.grown hgrow9 hb8.size (own_le own8'); have st9 : StrsAt w9 (some ⟨gg9, 0, none⟩) (X ++ [R]) := strsAt_own9 (by simpa [strv] using own9); have hcap9 := own_cap (ss := X ++ [R]) (by simpa [strv] using own9))
              | (refine step_append_lies _ (by rfl) _ _ 22 (by rfl) w4.heap.size 9 i0 (.string ⟨#[]⟩) 1 16 Tryd.underlying22 hi0 hz0 hz1 hz2 rfl (by omega) _ 0 [] (by rfl) own5 ⟨b4', o4, none⟩ X.length c4 (strv X) (by rfl) (by simp [strv]) hnews (by simp [strv, Value.oneCell']) (by omega) (by unfold maxLen; omega) (by omega) (by simp) (w4.heap.size + 1) (by simp) ?_; intro gg8 cap8 w8 own8 hgrow8 hat8 hlt8; rw [Nat.zero_add]; have hb8 : Below w4.heap.size w4 w8 := (heldAppend (a := ⟨bq, oq + M, none⟩) hcl4 ⟨(hb5.cell (p := ⟨bq, oq + M, none⟩) hcl4).trans hc4, hb5⟩ hgrow8 own5).2; have own8' : w8.ownsRow w4.heap.size 9 1 (.slice (some ⟨gg8, 0, none⟩) X.length cap8) X.length (strv X) := own_norm own8)
              | (refine step_append_lies _ (by rfl) _ _ 22 (by rfl) w4.heap.size 9 i0 (.string ⟨#[]⟩) 1 16 Tryd.underlying22 hi0 hz0 hz1 hz2 rfl (by omega) _ 0 [] (by rfl) own5b ⟨b4', o4, none⟩ X.length c4 (strv X) (by rfl) (by simp [strv]) hnewsb (by simp [strv, Value.oneCell']) (by omega) (by unfold maxLen; omega) (by omega) (by simp; omega) (w4.heap.size + 1 + 1) (by simp) ?_; intro gg8 cap8 w8 own8 hgrow8 hat8 hlt8; rw [Nat.zero_add]; have hb8 : Below w4.heap.size w4 w8 := (heldAppend (a := ⟨bq, oq + M, none⟩) hcl4 ⟨(hb5b.cell (p := ⟨bq, oq + M, none⟩) hcl4).trans hc4, hb5b⟩ hgrow8 own5b).2; have own8' : w8.ownsRow w4.heap.size 9 1 (.slice (some ⟨gg8, 0, none⟩) X.length cap8) X.length (strv X) := own_norm own8; have hR8 : w8.cell? ⟨w4.heap.size + 1, 0, none⟩ = some (.string R) := (World.cell?_of_block (hgrow8.block (w4.heap.size + 1) (by simp) (by simp [Value.ownBlock]))).trans hR5b)
              | (refine step_append_lies _ (by rfl) _ _ 22 (by rfl) w4.heap.size 9 i0 (.string ⟨#[]⟩) 1 16 Tryd.underlying22 hi0 hz0 hz1 hz2 rfl (by omega) _ 0 [] (by rfl) own5c ⟨b4', o4, none⟩ X.length c4 (strv X) (by rfl) (by simp [strv]) hnewsc (by simp [strv, Value.oneCell']) (by omega) (by unfold maxLen; omega) (by omega) (by simp; omega) (w4.heap.size + 1 + 1) (by simp) ?_; intro gg8 cap8 w8 own8 hgrow8 hat8 hlt8; rw [Nat.zero_add]; have hb8 : Below w4.heap.size w4 w8 := (heldAppend (a := ⟨bq, oq + M, none⟩) hcl4 ⟨(hb5c.cell (p := ⟨bq, oq + M, none⟩) hcl4).trans hc4, hb5c⟩ hgrow8 own5c).2; have own8' : w8.ownsRow w4.heap.size 9 1 (.slice (some ⟨gg8, 0, none⟩) X.length cap8) X.length (strv X) := own_norm own8; have hR9 : w8.cell? ⟨w4.heap.size, 0, none⟩ = some (.string R) := (World.cell?_of_block (hgrow8.block w4.heap.size (by simp; omega) (by simp [Value.ownBlock]))).trans hR5c)
              | fail)
          all_goals
            have hS10 := (show w10.cell? ⟨bq, oq + M, none⟩ = some (.string s) ∧ Below w4.heap.size w4 w10 by assumption)
            have hS10d : w10.drew.cell? ⟨bq, oq + M, none⟩ = some (.string s) ∧ Below w4.heap.size w4 w10.drew := ⟨hS10.1, hS10.2.drew⟩
            by_cases hc41 : c4 = 1
            · have hX1 : X.length = 1 := by omega
              have hv3 := HV2.out (some ⟨b4', o4, none⟩) w10.drew hS10d (.inr hX1)
              rw [hX1, hc41, Nat.sub_self] at hv3
              have HV3 := Lib.hid hv3
              clear hv3
              have HX1 := Lib.hid hX1
              clear hX1
              subst hc41
              go_wp2_with fail
              go_region_held3 (fun w' => w'.cell? ⟨bq, oq + M, none⟩ = some (.string s) ∧ Below w4.heap.size w4 w') (first | assumption | exact hS10d | exact ⟨(hb12.cell (p := ⟨bq, oq + M, none⟩) hcl4).trans hc4, hb12⟩ | fail)
                (first | (go_at_call 20; with_reducible refine Calls.mono (HV3.out) ?_; rintro e w12 ⟨rfl, b12⟩; have hb12 := bthen hS10.2.drew b12) | fail)
              all_goals
                go_wp2
                go_ret
                exact ⟨rfl, bthen (bthen hbr3 b4) hb12⟩
            · have HV3 := Lib.hid (HV2.out (some ⟨b4', o4 + 1, none⟩) w10.drew hS10d (.inl rfl))
              go_wp2_with fail
              go_region_held3 (fun w' => w'.cell? ⟨bq, oq + M, none⟩ = some (.string s) ∧ Below w4.heap.size w4 w') (first | assumption | exact hS10d | exact ⟨(hb12.cell (p := ⟨bq, oq + M, none⟩) hcl4).trans hc4, hb12⟩ | fail)
                (first | (go_at_call 20; with_reducible refine Calls.mono (HV3.out) ?_; rintro e w12 ⟨rfl, b12⟩; have hb12 := bthen hS10.2.drew b12) | fail)
              all_goals
                go_wp2
                go_ret
                exact ⟨rfl, bthen (bthen hbr3 b4) hb12⟩
end Go.Proofs.YtnmbadkcjjlebaaDoor
