/- The iterator over the pieces of two lists. -/
import Derived.Test.YtjocgipjmcnjfaaSpPcM
import Derived.Test.YtjocgipjmcnjfaaSpNorm
import Derived.Test.YtjocgipjmcnjfaaSpQuiet
import Derived.Outline
namespace Go.Proofs.Ytjocgipjmcnjfaa
open Go.RowKit Go.Shelf
attribute [local go_sem] Oper.semAt_some

set_option maxRecDepth 100000 in
set_option maxHeartbeats 1000000 in
theorem look_any (p : Option Addr) (cap : Nat) (l : List (Int × Int)) (x : Int) (w : World) (hS : ShAt w w.heap.size p l) (hlen : l.length ≤ 100000) :
    Calls Try.prog 70 #[.slice p l.length cap, iv x] w fun e w' => e = .returned (.tuple #[.bool (lookZ l x).1, iv (lookZ l x).2]) ∧ Below w.heap.size w w' := by
  rcases l with _ | ⟨s, r⟩
  · clear hS
    go_enter Try.func70, Try.ntmps70
    go_wp2_with fail
    go_ret2
    exact ⟨rfl, Below.refl _ _⟩
  · obtain ⟨b, o, rfl, hb, q0, q1⟩ := hS 0 (by simp)
    obtain ⟨x0, y0⟩ := s
    simp only [List.getD_cons_zero, Nat.zero_mul, Nat.add_zero] at q0 q1
    obtain ⟨n, hn⟩ : ∃ n, ((x0, y0) :: r).length = n + 1 := ⟨_, rfl⟩
    rw [hn] at hlen ⊢
    have hn1 : ((n + 1 : Nat) : Int) = (n : Int) + 1 := by omega
    have hz : (((n + 1 : Nat) : Int) == 0) = false := by simp; omega
    have hz2 : (((n : Int) + 1) == 0) = false := by simp; omega
    clear hS hn
    by_cases hc : x < x0
    · have d1 : decide (x < x0) = true := by simpa using hc
      rw [show lookZ ((x0, y0) :: r) x = (false, x0) from if_pos hc]
      go_enter Try.func70, Try.ntmps70
      go_wp2_with fail
      go_quiet (fail)
      go_wp2_with fail
      go_ret2
      exact ⟨rfl, below_drewN (Below.refl _ _) _⟩
    · have d1 : decide (x < x0) = false := by simpa using hc
      rw [show lookZ ((x0, y0) :: r) x = (true, y0) from if_neg hc]
      go_enter Try.func70, Try.ntmps70
      go_wp2_with fail
      go_quiet (fail)
      go_wp2_with fail
      go_ret2
      exact ⟨rfl, below_drewN (Below.refl _ _) _⟩

/-- The spans of l lie at p, below n₀ and not in K. -/
def ShK (w : World) (K n₀ : Nat) (p : Option Addr) (sh : List (Int × Int)) : Prop :=
  ∀ i, i < sh.length → ∃ b o, p = some ⟨b, o, none⟩ ∧ (b < n₀ ∧ b ≠ K) ∧ w.cell? ⟨b, o + i * 2, none⟩ = some (iv (sh.getD i (0, 0)).1) ∧ w.cell? ⟨b, o + i * 2 + 1, none⟩ = some (iv (sh.getD i (0, 0)).2)
theorem ShK.sh {w : World} {K n₀ : Nat} {p : Option Addr} {l : List (Int × Int)} (h : ShK w K n₀ p l) : ShAt w n₀ p l := fun i hi => by
  obtain ⟨b, o, h1, h2, h3, h4⟩ := h i hi
  exact ⟨b, o, h1, h2.1, h3, h4⟩
theorem ShK.turns {A B : World} {K n₀ : Nat} {p : Option Addr} {l : List (Int × Int)} {M : Nat → Prop} (h : ShK A K n₀ p l) (ht : Turns M A B) (hn : n₀ ≤ A.heap.size) (hM : ∀ j, M j → n₀ ≤ j ∨ j = K) : ShK B K n₀ p l := fun i hi => by
  obtain ⟨b, o, h1, h2, h3, h4⟩ := h i hi
  have e : B.heap[b]? = A.heap[b]? := ht.block b (by omega) (fun hm => by have := hM b hm; omega)
  exact ⟨b, o, h1, h2, (World.cell?_of_block (a := ⟨b, _, none⟩) e).trans h3, (World.cell?_of_block (a := ⟨b, _, none⟩) e).trans h4⟩
theorem ShK.below {A B : World} {K n₀ : Nat} {p : Option Addr} {l : List (Int × Int)} (h : ShK A K n₀ p l) (hb : Below A.heap.size A B) (hn : n₀ ≤ A.heap.size) : ShK B K n₀ p l :=
  h.turns (M := fun _ => False) (Turns.of_below hb) hn (fun _ h => h.elim)

/-- A list and its room. -/
def Sc (K n₀ : Nat) (w : World) (l : List (Int × Int)) (e : Ending) (w' : World) : Prop := ∃ p cap, e = .returned (.slice p l.length cap) ∧ ShK w' K n₀ p l ∧ l.length ≤ cap ∧ Below w.heap.size w w'

set_option maxRecDepth 100000 in
set_option maxHeartbeats 1000000 in
theorem drop_any (p : Option Addr) (cap K n₀ : Nat) (l : List (Int × Int)) (x : Int) (w : World) (hn0 : n₀ ≤ w.heap.size) (hS : ShK w K n₀ p l) (hlen : l.length ≤ 100000) (hcap : l.length ≤ cap) :
    Calls Try.prog 71 #[.slice p l.length cap, iv x] w (Sc K n₀ w (dropZ l x)) := by
  rcases l with _ | ⟨s, r⟩
  · go_enter Try.func71, Try.ntmps71
    go_wp2_with fail
    go_ret
    exact ⟨_, _, rfl, (fun i hi => by cases hi), hcap, Below.refl _ _⟩
  · obtain ⟨b, o, rfl, hb, q0, q1⟩ := hS 0 (by simp)
    obtain ⟨x0, y0⟩ := s
    simp only [List.getD_cons_zero, Nat.zero_mul, Nat.add_zero] at q0 q1
    have hrest : ∀ pr, (cap ≠ 1 → pr = some ⟨b, o + 2, none⟩) → ShK w K n₀ pr r := fun pr hpr i hi => by
      obtain ⟨b', o', hp, hb', r0, r1⟩ := hS (i + 1) (by simp; omega)
      simp only [Option.some.injEq, Addr.mk.injEq] at hp
      obtain ⟨rfl, rfl, -⟩ := hp
      refine ⟨b, o + 2, hpr (by have := hcap; simp at this; omega), hb', ?_, ?_⟩
      · rw [show o + 2 + i * 2 = o + (i + 1) * 2 by omega]; exact r0
      · rw [show o + 2 + i * 2 + 1 = o + (i + 1) * 2 + 1 by omega]; exact r1
    have HR := Lib.hid hrest
    have HS := Lib.hid hS
    have hrl : ((x0, y0) :: r).length = r.length + 1 := rfl
    obtain ⟨n, hn⟩ : ∃ n, r.length = n := ⟨_, rfl⟩
    rw [hrl, hn] at hlen hcap ⊢
    have HN := Lib.hid hn
    have hn1 : (0 : Int) < ((n + 1 : Nat) : Int) := by omega
    have hn2 : (1 : Int) ≤ ((n + 1 : Nat) : Int) := by omega
    have hn3 : ((n + 1 : Nat) : Int) - 1 = (n : Int) := by omega
    clear hS hrest hn hrl
    by_cases hc : y0 = x
    · subst hc
      rw [show dropZ ((x0, y0) :: r) y0 = r from if_pos rfl]
      by_cases h1 : cap = 1
      · subst h1
        obtain rfl : n = 0 := by omega
        go_enter Try.func71, Try.ntmps71
        go_wp2_with fail
        go_ret
        exact ⟨_, _, by rw [HN.out]; rfl, HR.out _ (fun h => absurd rfl h), by have := HN.out; omega, Below.refl _ _⟩
      · go_enter Try.func71, Try.ntmps71
        go_wp2_with fail
        go_ret
        exact ⟨_, _, by rw [HN.out]; rfl, HR.out _ (fun _ => rfl), by have := HN.out; omega, Below.refl _ _⟩
    · rw [show dropZ ((x0, y0) :: r) x = (x0, y0) :: r from if_neg hc]
      have hc2 : (y0 == x) = false := by simpa using hc
      go_enter Try.func71, Try.ntmps71
      go_wp2_with fail
      go_ret
      exact ⟨_, _, by rw [← HN.out]; rfl, HS.out, by show r.length + 1 ≤ cap; have := HN.out; omega, Below.refl _ _⟩

theorem own_shc {w : World} {N : Nat} {v : Value} {l : List (Int × Int)} (h : w.ownsRow N 30 2 v l.length (spv l)) : ∃ p cap, v = .slice p l.length cap ∧ ShAt w w.heap.size p l ∧ l.length ≤ cap := by
  obtain ⟨p, cap, rfl, hS⟩ := own_sh h
  refine ⟨p, cap, rfl, hS, ?_⟩
  rcases h.2 with ⟨h1, h0⟩ | ⟨g, cap', cur, h1, _, _, hnc, _⟩
  · omega
  · cases h1; exact hnc

set_option maxRecDepth 100000 in
set_option maxHeartbeats 2000000 in
theorem norm_cap (p : Option Addr) (cap K : Nat) (l : List (Int × Int)) (w : World) (hS : ShAt w K p l) (hK : K < w.heap.size) (hlen : l.length ≤ 100000) (hcap : l.length ≤ cap) :
    Calls Try.prog 45 #[.slice p l.length cap] w fun e w' => Sc K w'.heap.size w (nrmZ l) e w' := by
  have hv := valid_any p cap l w (hS.mono (by omega)) hlen
  by_cases h : Asc l
  · rw [nrmZ_of h]
    rw [show ascB l = true from decide_eq_true h] at hv
    have HS := Lib.hid hS
    clear hS
    go_enter Try.func45, Try.ntmps45
    go_wp2_with fail
    refine hv.mono ?_
    rintro e w1 ⟨rfl, b1⟩
    go_wp2_with fail
    go_ret
    refine ⟨_, _, rfl, fun i hi => ?_, hcap, b1⟩
    obtain ⟨b, o, h1, h2, h3, h4⟩ := (HS.out.below (b1.mono (by omega))) i hi
    have := b1.size
    exact ⟨b, o, h1, by omega, h3, h4⟩
  · rw [show ascB l = false from decide_eq_false h] at hv
    have hn := fun W (hb : Below w.heap.size w W) => normal_own p cap l W ((hS.mono (by omega)).into hb) hlen
    clear hS
    go_enter Try.func45, Try.ntmps45
    go_wp2_with fail
    refine hv.mono ?_
    rintro e w1 ⟨rfl, b1⟩
    go_wp2_with fail
    refine (hn _ b1).mono ?_
    rintro e w2 ⟨v, rfl, ho, b2⟩
    have hlt := ho.lt
    obtain ⟨p2, c2, rfl, hS2, hc2⟩ := own_shc ho
    have hz1 := b1.size
    have hSK : ShK w2 K w2.heap.size p2 (nrmZ l) := fun i hi => by
      obtain ⟨b, o, h1, h2, h3, h4⟩ := hS2 i hi
      have := hlt b (by rw [h1]; rfl)
      exact ⟨b, o, h1, by omega, h3, h4⟩
    clear ho hlt hS2
    go_wp2_with fail
    go_ret
    exact ⟨_, _, rfl, hSK, hc2, bthen b1 b2⟩

def encP4 (x : Pc) : Array Value := #[.agg #[iv x.1.1, iv x.1.2, .bool x.2.1, .bool x.2.2]]
theorem dropZ_len (l : List (Int × Int)) (x : Int) : (dropZ l x).length ≤ l.length := by
  cases l with
  | nil => exact Nat.le_refl _
  | cons s r =>
    show (if s.2 = x then r else s :: r).length ≤ r.length + 1
    split <;> simp

set_option maxHeartbeats 1000000 in
theorem pieces_in (F : Fence) (n : Nat) (hf : F.fn 58) (hro : F.round = none) (pa pb : Option Addr) (na nb ca cb : Nat) (w : World) :
    CallsIn F n Try.prog 58 #[.slice pa na ca, .slice pb nb cb] w fun e w' => e = .returned (.func (.func 69) #[] #[.pointer (some ⟨w.heap.size, 0, none⟩), .pointer (some ⟨w.heap.size + 1, 0, none⟩)]) ∧ w' = (w.alloc (.cells #[.slice pa na ca] 22)).alloc (.cells #[.slice pb nb cb] 22) := by
  refine callsIn_of_wp Try.func58 rfl hf ?_ hro
  simp only [Try.ntmps58, List.size_toArray, List.length_cons, List.length_nil, Nat.reduceAdd, Nat.reduceSub, Array.replicate_succ, Array.replicate_zero, List.push_toArray, List.append_toArray, List.nil_append, List.cons_append]
  gi_wp2
  go_ret
  exact ⟨rfl, rfl⟩

set_option maxRecDepth 100000 in
set_option maxHeartbeats 4000000 in
theorem pieces_hands (n : Nat) (hn : 1 ≤ n) (A B K n₀ : Nat) (pa pb : Option Addr) (ca cb : Nat) (la lb : List (Int × Int)) (w : World)
    (hn0 : n₀ ≤ w.heap.size) (hA : Arr w A 22 [.slice pa la.length ca]) (hB : Arr w B 22 [.slice pb lb.length cb]) (hSa : ShK w K n₀ pa la) (hSb : ShK w K n₀ pb lb)
    (hla : la.length ≤ 100000) (hlb : lb.length ≤ 100000) (hca : la.length ≤ ca) (hcb : lb.length ≤ cb) (hIa : Inv (-9223372036854775808) la) (hIb : Inv (-9223372036854775808) lb) :
    Hands Fence.wide n Try.prog 69 #[.pointer (some ⟨A, 0, none⟩), .pointer (some ⟨B, 0, none⟩)] encP4 (fun k => k < n₀ ∧ k ≠ K) (allPc la lb) w := by
  have hwide : ∀ f, Fence.wide.fn f := fun _ => trivial
  have hro : Fence.wide.round = none := rfl
  intro l J Jx M0 W hW hM hJ hJx hY h0
  have hWs := hW.size
  have hAW := hA.below hW hA.lt
  have hBW := hB.below hW hB.lt
  have hSaW := hSa.below hW hn0
  have hSbW := hSb.below hW hn0
  have ac := hAW.cell (i := 0) rfl
  have bc := hBW.cell (i := 0) rfl
  obtain ⟨T, hT⟩ : ∃ T, allPc la lb = T := ⟨_, rfl⟩
  rw [hT] at hY ⊢
  have HT := Lib.hid hT
  have hMC : ∀ k, M0 k → k < W.heap.size ∧ (n₀ ≤ k ∨ k = K) := fun k hk => by have := hM k hk; omega
  clear hA hB hSa hSb hM hT
  refine callsIn_of_wp Try.func69 rfl (hwide _) ?_ hro
  simp only [Try.ntmps69, List.size_toArray, List.length_cons, List.length_nil, Nat.reduceAdd, Nat.reduceSub, Array.replicate_succ, Array.replicate_zero, List.push_toArray, List.append_toArray, List.nil_append, List.cons_append]
  gi_wp2_with fail
  refine wpIn_region_quietR (by kernel_rfl) (by kernel_rfl) (by kernel_rfl) ?_
  repeat (gi_big_quiet_step (fail))
  refine wpQuietIn_nil ?_
  intro W6 hw'
  obtain ⟨nq, hw''⟩ := hw'
  have b6 : Below W.heap.size W W6 := by rw [hw'']; exact below_drewN (Below.refl _ _) nq
  have s6 : W6.heap.size = W.heap.size := by rw [hw'']; rfl
  clear hw'' ac bc hAW hBW
  have hJ0 := hJ _ _ _ _ h0 (Turns.of_below b6)
  have hSa6 := hSaW.below b6 (by omega)
  have hSb6 := hSbW.below b6 (by omega)
  have hM6 : ∀ k, M0 k → k < W6.heap.size ∧ (n₀ ≤ k ∨ k = K) := fun k hk => by have := hMC k hk; omega
  have hW6 : n₀ ≤ W6.heap.size := by omega
  clear hSaW hSbW h0 hMC
  gi_wp2_with fail
  gi_loopw [4, 5, 6] (fun s4 s5 s6 wr => ∃ (bg : Int) (ra rb : List (Int × Int)) (pa pb : Option Addr) (ca cb fu : Nat) (pre : List Pc) (M : Nat → Prop), s4 = .int .i64 bg ∧ s5 = .slice pa ra.length ca ∧ s6 = .slice pb rb.length cb ∧ ShK wr K n₀ pa ra ∧ ShK wr K n₀ pb rb ∧ ra.length ≤ ca ∧ rb.length ≤ cb ∧ ra.length ≤ 100000 ∧ rb.length ≤ 100000 ∧ Inv bg ra ∧ Inv bg rb ∧ -9223372036854775808 ≤ bg ∧ bg ≤ 9223372036854775807 ∧ (9223372036854775807 - bg).toNat ≤ fu ∧ T = pre ++ piecesZ fu bg ra rb ∧ J pre M wr ∧ (∀ j, M j → j < wr.heap.size ∧ (n₀ ≤ j ∨ j = K)) ∧ n₀ ≤ wr.heap.size ∧ W.heap.size ≤ wr.heap.size) (fun s4 _ _ _ => (9223372036854775807 - intOf s4).toNat)
  case atStart =>
    exact ⟨_, la, lb, pa, pb, ca, cb, 18446744073709551615, [], M0, rfl, rfl, rfl, hSa6, hSb6, hca, hcb, hla, hlb, hIa, hIb, by omega, by omega, by omega, by rw [← HT.out]; rfl, hJ0, hM6, hW6, by omega⟩
  case round =>
    clear hJ0 hSa6 hSb6 hM6 hca hcb hla hlb hIa hIb HT hW6
    obtain ⟨bg, ra, rb, pa, pb, ca, cb, fu, pre, M, rfl, rfl, rfl, hSa, hSb, hca, hcb, hla, hlb, hIa, hIb, g0, g1, hfu, hT, hJs, hMs, hn1, hWr⟩ := hrel
    by_cases hne : ra = [] ∧ rb = []
    · obtain ⟨rfl, rfl⟩ := hne
      have hP : T = pre := by
        rw [hT]
        cases fu <;> simp [piecesZ]
      have HP := Lib.hid hP
      clear hT hP hSa hSb hIa hIb
      gi_wp2_with fail
      go_end0
      exact ⟨⟨_, rfl⟩, .inl ⟨M, by rw [HP.out]; exact hJs⟩⟩
    · have hbl := bg_lt hIa hIb hne
      have k1 := look_ok hIa hbl
      have k2 := look_ok hIb hbl
      obtain ⟨f1, rfl⟩ : ∃ f, fu = f + 1 := ⟨fu - 1, by omega⟩
      have hT2 : T = pre ++ ((bg, min (lookZ ra bg).2 (lookZ rb bg).2), (lookZ ra bg).1, (lookZ rb bg).1) :: piecesZ f1 (min (lookZ ra bg).2 (lookZ rb bg).2) (dropZ ra (min (lookZ ra bg).2 (lookZ rb bg).2)) (dropZ rb (min (lookZ ra bg).2 (lookZ rb bg).2)) := by
        rw [hT]; congr 1; exact if_neg hne
      have hla1 := fun W (h : Below wr.heap.size wr W) => look_any pa ca ra bg W ((hSa.below h hn1).sh.mono (by have := h.size; omega)) hla
      have hlb1 := fun W (h : Below wr.heap.size wr W) => look_any pb cb rb bg W ((hSb.below h hn1).sh.mono (by have := h.size; omega)) hlb
      obtain ⟨en, hen⟩ : ∃ en, min (lookZ ra bg).2 (lookZ rb bg).2 = en := ⟨_, rfl⟩
      rw [hen] at hT2
      obtain ⟨p1, -, -, -, -⟩ := drop_ok hIa (en := en) (by omega) (by omega)
      obtain ⟨q1, -, -, -, -⟩ := drop_ok hIb (en := en) (by omega) (by omega)
      generalize lookZ ra bg = X1 at hla1 k1 hen hT2
      generalize lookZ rb bg = X2 at hlb1 k2 hen hT2
      obtain ⟨F1, E1⟩ := X1
      obtain ⟨F2, E2⟩ := X2
      dsimp only at hla1 hlb1 k1 k2 hen hT2
      have hda := fun W (h : ShK W K n₀ pa ra) (h0 : n₀ ≤ W.heap.size) => drop_any pa ca K n₀ ra en W h0 h hla hca
      have hdb := fun W (h : ShK W K n₀ pb rb) (h0 : n₀ ≤ W.heap.size) => drop_any pb cb K n₀ rb en W h0 h hlb hcb
      have hdal := dropZ_len ra en
      have hdbl := dropZ_len rb en
      have hor : (0 < ra.length) ∨ (ra.length = 0 ∧ 0 < rb.length) := by
        rcases ra with _ | ⟨s, r⟩
        · rcases rb with _ | ⟨t, u⟩
          · exact absurd ⟨rfl, rfl⟩ hne
          · exact .inr ⟨rfl, by simp⟩
        · exact .inl (by simp)
      generalize dropZ ra en = RA at p1 hda hdal hT2
      generalize dropZ rb en = RB at q1 hdb hdbl hT2
      obtain ⟨na, hna⟩ : ∃ na, ra.length = na := ⟨_, rfl⟩
      obtain ⟨nb, hnb⟩ : ∃ nb, rb.length = nb := ⟨_, rfl⟩
      rw [hna] at hla1 hda hor hca hla hdal ⊢
      rw [hnb] at hlb1 hdb hor hcb hlb hdbl ⊢
      have HT2 := Lib.hid hT2
      have HSa := Lib.hid hSa
      have HSb := Lib.hid hSb
      have HP1 := Lib.hid p1
      have HQ1 := Lib.hid q1
      obtain ⟨k3, k4⟩ := k1
      obtain ⟨k5, k6⟩ := k2
      have hbe : bg < en := by omega
      have heM : en ≤ 9223372036854775807 := by omega
      have hMs' := Lib.hid hMs
      clear hT hT2 hSa hSb hIa hIb hne p1 q1 hMs hna hnb
      rcases hor with h1 | ⟨rfl, h1⟩
      · have h1' : (0 : Int) < (na : Int) := by omega
        gi_wp2_with fail
        refine (callsIn_wide.2 (hla1 _ (Below.refl _ _))).mono ?_
        rintro e w1 ⟨rfl, b1⟩
        gi_wp2_with fail
        refine (callsIn_wide.2 (hlb1 _ b1)).mono ?_
        rintro e w2 ⟨rfl, b2⟩
        have b02 := bthen b1 b2
        have hJ2 := hJ _ _ _ _ hJs (Turns.of_below b02)
        have z2 := b02.size
        clear hla1 hlb1
        gi_wp2_with fail
        obtain ⟨fn, tmps, assign, body, hy, hR⟩ := hY pre ((bg, en), F1, F2) M w2 hJ2 ⟨piecesZ f1 en RA RB, by rw [HT2.out]; simp⟩
        unfold encP4 at hy
        dsimp only at hy
        rw [hy]
        gi_wp2
        refine hR.mono ?_
        rintro e W3 ⟨M', (⟨rfl, hG, hJ3⟩ | ⟨rfl, hJx3⟩)⟩
        · have m0 : ∀ j, M' j → j < W3.heap.size ∧ (n₀ ≤ j ∨ j = K) := fun j hj => by
            have h1 := hG.lt j hj
            rcases hG.new j hj with h | h
            · have := hMs'.out j h; exact ⟨h1, this.2⟩
            · exact ⟨h1, by omega⟩
          have hSa3 := (HSa.out.below b02 hn1).turns hG.turns (by omega) (fun j hj => (m0 j hj).2)
          have hSb3 := (HSb.out.below b02 hn1).turns hG.turns (by omega) (fun j hj => (m0 j hj).2)
          have z3 := hG.turns.size
          have HM0 := Lib.hid m0
          have hda3 := hda W3 hSa3 (by omega)
          have hdb3 := fun W4 (h : Below W3.heap.size W3 W4) => hdb W4 (hSb3.below h (by omega)) (by have := h.size; omega)
          clear hR hJ2 m0 hSa3 hSb3 hda hdb
          gi_wp2_with fail
          refine (callsIn_wide.2 hda3).mono ?_
          rintro e w4 ⟨pa4, ca4, rfl, hSa4, hca4, b4⟩
          gi_wp2_with fail
          refine (callsIn_wide.2 (hdb3 _ b4)).mono ?_
          rintro e w5 ⟨pb5, cb5, rfl, hSb5, hcb5, b5⟩
          have b35 := bthen b4 b5
          have z4 := b4.size
          have z5 := b35.size
          have hSa5 := hSa4.below b5 (by omega)
          have hJ5 := hJ _ _ _ _ hJ3 (Turns.of_below b35)
          have hM5 : ∀ j, M' j → j < w5.heap.size ∧ (n₀ ≤ j ∨ j = K) := fun j hj => by have := HM0.out j hj; omega
          clear hda3 hdb3 hSa4
          gi_wp2_with fail
          exact ⟨⟨en, RA, RB, pa4, pb5, ca4, cb5, f1, pre ++ [((bg, en), F1, F2)], M', rfl, rfl, rfl, hSa5, hSb5, hca4, hcb5, by omega, by omega, HP1.out, HQ1.out, by omega, heM, by omega, by rw [HT2.out]; simp, hJ5, hM5, by omega, by omega⟩, by simp [intOf]; omega⟩
        · gi_wp2
          refine bodyPost_ret (results_none rfl _ _ _) rfl ?_
          exact ⟨⟨_, rfl⟩, .inr ⟨pre ++ [((bg, en), F1, F2)], M', ⟨piecesZ f1 en RA RB, by rw [HT2.out]; simp⟩, hJx3⟩⟩
      · have h1' : (0 : Int) < (nb : Int) := by omega
        gi_wp2_with fail
        refine (callsIn_wide.2 (hla1 _ (Below.refl _ _))).mono ?_
        rintro e w1 ⟨rfl, b1⟩
        gi_wp2_with fail
        refine (callsIn_wide.2 (hlb1 _ b1)).mono ?_
        rintro e w2 ⟨rfl, b2⟩
        have b02 := bthen b1 b2
        have hJ2 := hJ _ _ _ _ hJs (Turns.of_below b02)
        have z2 := b02.size
        clear hla1 hlb1
        gi_wp2_with fail
        obtain ⟨fn, tmps, assign, body, hy, hR⟩ := hY pre ((bg, en), F1, F2) M w2 hJ2 ⟨piecesZ f1 en RA RB, by rw [HT2.out]; simp⟩
        unfold encP4 at hy
        dsimp only at hy
        rw [hy]
        gi_wp2
        refine hR.mono ?_
        rintro e W3 ⟨M', (⟨rfl, hG, hJ3⟩ | ⟨rfl, hJx3⟩)⟩
        · have m0 : ∀ j, M' j → j < W3.heap.size ∧ (n₀ ≤ j ∨ j = K) := fun j hj => by
            have h1 := hG.lt j hj
            rcases hG.new j hj with h | h
            · have := hMs'.out j h; exact ⟨h1, this.2⟩
            · exact ⟨h1, by omega⟩
          have hSa3 := (HSa.out.below b02 hn1).turns hG.turns (by omega) (fun j hj => (m0 j hj).2)
          have hSb3 := (HSb.out.below b02 hn1).turns hG.turns (by omega) (fun j hj => (m0 j hj).2)
          have z3 := hG.turns.size
          have HM0 := Lib.hid m0
          have hda3 := hda W3 hSa3 (by omega)
          have hdb3 := fun W4 (h : Below W3.heap.size W3 W4) => hdb W4 (hSb3.below h (by omega)) (by have := h.size; omega)
          clear hR hJ2 m0 hSa3 hSb3 hda hdb
          gi_wp2_with fail
          refine (callsIn_wide.2 hda3).mono ?_
          rintro e w4 ⟨pa4, ca4, rfl, hSa4, hca4, b4⟩
          gi_wp2_with fail
          refine (callsIn_wide.2 (hdb3 _ b4)).mono ?_
          rintro e w5 ⟨pb5, cb5, rfl, hSb5, hcb5, b5⟩
          have b35 := bthen b4 b5
          have z4 := b4.size
          have z5 := b35.size
          have hSa5 := hSa4.below b5 (by omega)
          have hJ5 := hJ _ _ _ _ hJ3 (Turns.of_below b35)
          have hM5 : ∀ j, M' j → j < w5.heap.size ∧ (n₀ ≤ j ∨ j = K) := fun j hj => by have := HM0.out j hj; omega
          clear hda3 hdb3 hSa4
          gi_wp2_with fail
          exact ⟨⟨en, RA, RB, pa4, pb5, ca4, cb5, f1, pre ++ [((bg, en), F1, F2)], M', rfl, rfl, rfl, hSa5, hSb5, hca4, hcb5, by omega, by omega, HP1.out, HQ1.out, by omega, heM, by omega, by rw [HT2.out]; simp, hJ5, hM5, by omega, by omega⟩, by simp [intOf]; omega⟩
        · gi_wp2
          refine bodyPost_ret (results_none rfl _ _ _) rfl ?_
          exact ⟨⟨_, rfl⟩, .inr ⟨pre ++ [((bg, en), F1, F2)], M', ⟨piecesZ f1 en RA RB, by rw [HT2.out]; simp⟩, hJx3⟩⟩
end Go.Proofs.Ytjocgipjmcnjfaa
