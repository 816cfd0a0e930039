import Derived.Test.YtfannkpnmaeljaaGreatDoorGSpT1
import Derived.Test.YtfannkpnmaeljaaGreatDoorGSp1
import Derived.Test.YtfannkpnmaeljaaGreatDoorGSp2
import Derived.Outline
import Derived.WalkMore
import Derived.Laws.EntriesVeiled
import Derived.Shelf.AbstractIn
set_option linter.unusedVariables false
set_option linter.unusedSimpArgs false
/- Normal. -/
namespace Go.Proofs.YtfannkpnmaeljaaGreatDoor
open Go.RowKit

theorem joinZ_len (l : List (Int × Int)) (s : Int × Int) : (joinZ l s).length ≤ l.length + 1 := by
  rcases List.eq_nil_or_concat l with rfl | ⟨k, t, rfl⟩
  · simp [joinZ_nil]
  · rw [List.concat_eq_append, joinZ_last]
    split <;> simp
theorem joinAll_len (d : List (Int × Int)) : ∀ acc : List (Int × Int), (d.foldl joinZ acc).length ≤ acc.length + d.length := by
  induction d with
  | nil => intro acc; simp
  | cons s d ih => intro acc; rw [List.foldl_cons]; have := ih (joinZ acc s); have := joinZ_len acc s; simp; omega

set_option maxRecDepth 100000 in
set_option maxHeartbeats 2000000 in
theorem normal_own (p : Option Addr) (cap : Nat) (l : List (Int × Int)) (w : World) (hS : ShAt w w.heap.size p l) (hlen : l.length ≤ 100000) :
    Calls Tryz.prog 97 #[.slice p l.length cap] w (Own w (nrmZ l)) := by
  have hcl := clone_any p cap l w hS hlen
  clear hS
  obtain ⟨V, hV⟩ : ∃ V, nrmZ l = V := ⟨_, rfl⟩
  rw [hV]
  have HV := Lib.hid hV; clear hV
  go_enter Tryz.func97, Tryz.ntmps97
  go_wp2_with fail
  refine hcl.mono ?_
  rintro e w1 ⟨v1, rfl, o1, b1⟩
  go_wp2_with fail
  refine (del_any _ v1 l w1 o1 hlen).mono ?_
  rintro e w2 ⟨v2, rfl, o2, t2, hb2⟩
  have b2 : Below w.heap.size w w2 := b1.trans (t2.below b1.size (fun k hk => ((o1.lt k hk).1)))
  have hfl : (fullZ l).length ≤ l.length := List.length_filter_le _ _
  go_wp2_with fail
  refine (sort_any _ v2 (fullZ l) w2 o2 (by omega)).mono ?_
  rintro e w3 ⟨⟨vv, rfl⟩, d, hp, hs, o3, t3⟩
  have b3 : Below w.heap.size w w3 := b2.trans (t3.below b2.size (fun k hk => ((o2.lt k hk).1)))
  have hdl : d.length = (fullZ l).length := hp.length_eq
  have hfin : d.foldl joinZ [] = V := by rw [← HV.out]; exact joinAll_nrm (l := l) (f := fullZ l) rfl hp hs
  have HF := Lib.hid hfin
  obtain ⟨m, hm⟩ : ∃ m, d.length = m := ⟨_, rfl⟩
  have hm5 : m ≤ 100000 := by omega
  obtain ⟨p2, c2, rfl, hS3⟩ := own_sh o3
  rw [hm] at o3
  have HM := Lib.hid hm
  obtain ⟨N, hN⟩ : ∃ N, w.heap.size = N := ⟨_, rfl⟩
  rw [hN] at o3 b3
  rw [hm]
  clear o1 o2 t2 t3 b1 b2 hcl hp hs hfin hS3 hfl hdl hb2 hm
  go_wp2_with fail
  go_loopw [4, 14] (fun s4 s14 wr => ∃ (k : Nat) (vj : Value), vj = s4 ∧ s14 = .int .i64 k ∧ k ≤ m ∧ wr.ownsRow N 34 2 (.slice p2 m c2) m (spv d) ∧ wr.ownsRow N 34 2 vj ((d.take k).foldl joinZ []).length (spv ((d.take k).foldl joinZ [])) ∧ (∀ j, (Value.slice p2 m c2).ownBlock = some j → vj.ownBlock ≠ some j) ∧ Below N w wr) (fun _ s14 _ => m - (intOf s14).toNat)
  case atStart => exact ⟨0, _, rfl, rfl, Nat.zero_le _, o3, World.ownsRow_nil _ _ _ _, (fun j _ h => by cases h), b3⟩
  case round =>
    clear o3 b3
    obtain ⟨k, vj, he4, rfl, hk, o3, oj, hdis, hb⟩ := hrel
    subst he4
    have hsz : N ≤ wr.heap.size := by have := hb.size; omega
    by_cases hlt : k < m
    · have hmd := HM.out
      obtain ⟨p3, c3, he, hS3⟩ := own_sh (by rw [hmd]; exact o3)
      rw [hmd] at he
      cases he
      obtain ⟨b, o, rfl, hbl, q0, q1⟩ := hS3 k (by omega)
      have hstep : d.take (k + 1) = d.take k ++ [d.getD k (0, 0)] := by rw [List.take_succ_eq_append_getElem (by omega), getD_at (by omega)]
      obtain ⟨X, hX⟩ : ∃ X, d.getD k (0, 0) = X := ⟨_, rfl⟩
      rw [hX] at q0 q1 hstep
      obtain ⟨x, y⟩ := X
      dsimp only at q0 q1
      have hfold : (d.take (k + 1)).foldl joinZ [] = joinZ ((d.take k).foldl joinZ []) (x, y) := by rw [hstep, List.foldl_append]; rfl
      have hacc : ((d.take k).foldl joinZ []).length ≤ 100000 := by
        have := joinAll_len (d.take k) []
        rw [List.length_take] at this; simp at this; omega
      have HFo := Lib.hid hfold
      have HA := Lib.hid hacc
      have HO3 := Lib.hid o3
      have HOJ := Lib.hid oj
      have HD := Lib.hid hdis
      clear hX hstep hfold hacc hS3 o3 oj hdis hmd
      have hidx : (k : Int) * 2 = ((k * 2 : Nat) : Int) := by omega
      go_wp2_with fail
      obtain ⟨W1, hW1, b1, z1, ka⟩ := boxS wr x y
      rw [hW1]; clear hW1
      have o3 := own_below HO3.out b1
      have oj := own_below HOJ.out b1
      refine (join_any x y N vj _ W1 oj (by have := b1.size; omega) HA.out).mono ?_
      rintro e w5 ⟨v5, rfl, o5, t5, hn5⟩
      have o35 := t5.row o3 (fun j hj h => HD.out j hj h)
      have b5 : Below N w w5 := (hb.trans (b1.mono hsz)).trans (t5.below (by have := b1.size; omega) (fun k hk => (oj.lt k hk).1))
      go_wp2_with fail
      refine ⟨⟨k + 1, v5, rfl, by go_num, by omega, o35, by rw [HFo.out]; exact o5, fun j hj h => ?_, b5⟩, by simp [intOf] <;> omega⟩
      rcases hn5 j h with h' | h'
      · exact HD.out j hj h'
      · have := (o3.lt j hj).2; omega
    · obtain rfl : k = m := by omega
      have hfin : (d.take k).foldl joinZ [] = V := by rw [List.take_of_length_le (by rw [HM.out]; exact Nat.le_refl _)]; exact HF.out
      rw [hfin] at oj
      have HOJ := Lib.hid oj
      clear oj o3 hdis hfin
      go_wp2_with fail
      go_ret
      exact ⟨_, rfl, by rw [hN]; exact HOJ.out, by rw [hN]; exact hb⟩

theorem normal_sl (p : Option Addr) (cap : Nat) (l : List (Int × Int)) (w : World) (hS : ShAt w w.heap.size p l) (hlen : l.length ≤ 100000) :
    Calls Tryz.prog 97 #[.slice p l.length cap] w (Sl w (nrmZ l)) := (normal_own p cap l w hS hlen).mono fun _ _ h => h.sl

set_option maxRecDepth 100000 in
set_option maxHeartbeats 2000000 in
theorem norm_any (p : Option Addr) (cap : Nat) (l : List (Int × Int)) (w : World) (hS : ShAt w w.heap.size p l) (hlen : l.length ≤ 100000) :
    Calls Tryz.prog 78 #[.slice p l.length cap] w (Sl w (nrmZ l)) := by
  have hv := valid_any p cap l w hS hlen
  by_cases h : Asc l
  · rw [nrmZ_of h]
    rw [show ascB l = true from decide_eq_true h] at hv
    have HS := Lib.hid hS
    clear hS
    go_enter Tryz.func78, Tryz.ntmps78
    go_wp2_with fail
    refine hv.mono ?_
    rintro e w1 ⟨rfl, b1⟩
    go_wp2_with fail
    go_ret
    exact ⟨_, _, rfl, HS.out.into b1, b1⟩
  · rw [show ascB l = false from decide_eq_false h] at hv
    have hn := fun W (hb : Below w.heap.size w W) => normal_sl p cap l W (hS.into hb) hlen
    clear hS
    go_enter Tryz.func78, Tryz.ntmps78
    go_wp2_with fail
    refine hv.mono ?_
    rintro e w1 ⟨rfl, b1⟩
    go_wp2_with fail
    refine (hn _ b1).mono ?_
    rintro e w2 ⟨p2, c2, rfl, hS2, b2⟩
    go_wp2_with fail
    go_ret
    exact ⟨_, _, rfl, hS2, bthen b1 b2⟩

theorem nrm_len (l : List (Int × Int)) : (nrmZ l).length ≤ l.length := by
  suffices h : ∀ (l acc : List (Int × Int)), (l.foldl addS acc).length ≤ acc.length + l.length by
    have := h l []; unfold nrmZ; simpa using this
  intro l
  induction l with
  | nil => intro acc; simp
  | cons s l ih =>
    intro acc
    rw [List.foldl_cons]
    have h1 := ih (addS acc s)
    have h2 : (addS acc s).length ≤ acc.length + 1 := by
      unfold addS
      split
      · omega
      · have h3 : ∀ (r b : List (Int × Int)) (t : Int × Int) (a : List (Int × Int)), (addFin (r.foldl addStep (b, t, a))).length ≤ b.length + a.length + r.length + 1 := by
          intro r
          induction r with
          | nil => intro b t a; simp [addFin]; omega
          | cons u r ih2 =>
            intro b t a
            rw [List.foldl_cons]
            have hc : addStep (b, t, a) u = (b ++ [u], t, a) ∨ addStep (b, t, a) u = (b, t, a ++ [u]) ∨ addStep (b, t, a) u = (b, (min t.1 u.1, max t.2 u.2), a) := by
              unfold addStep
              split
              · exact .inl rfl
              · split
                · exact .inr (.inl rfl)
                · exact .inr (.inr rfl)
            rcases hc with hc | hc | hc
            · rw [hc]; have := ih2 (b ++ [u]) t a; simp at this ⊢; omega
            · rw [hc]; have := ih2 b t (a ++ [u]); simp at this ⊢; omega
            · rw [hc]; have := ih2 b (min t.1 u.1, max t.2 u.2) a; simp at this ⊢; omega
        have := h3 acc [] s []
        simp at this; omega
    simp; omega

end Go.Proofs.YtfannkpnmaeljaaGreatDoor

/- The iterator over the pieces of two lists. -/
namespace Go.Proofs.YtfannkpnmaeljaaGreatDoor
open Go.RowKit Go.Shelf
attribute [local go_sem] Oper.semAt_some

set_option maxRecDepth 100000 in
set_option maxHeartbeats 1000000 in
theorem look_any (p : Option Addr) (cap : Nat) (l : List (Int × Int)) (x : Int) (w : World) (hS : ShAt w w.heap.size p l) (hlen : l.length ≤ 100000) :
    Calls Tryz.prog 131 #[.slice p l.length cap, iv x] w fun e w' => e = .returned (.tuple #[.bool (lookZ l x).1, iv (lookZ l x).2]) ∧ Below w.heap.size w w' := by
  rcases l with _ | ⟨s, r⟩
  · clear hS
    go_enter Tryz.func131, Tryz.ntmps131
    go_wp2_with fail
    go_ret2
    exact ⟨rfl, Below.refl _ _⟩
  · obtain ⟨b, o, rfl, hb, q0, q1⟩ := hS 0 (by simp)
    obtain ⟨x0, y0⟩ := s
    simp only [List.getD_cons_zero, Nat.zero_mul, Nat.add_zero] at q0 q1
    obtain ⟨n, hn⟩ : ∃ n, ((x0, y0) :: r).length = n + 1 := ⟨_, rfl⟩
    rw [hn] at hlen ⊢
    have hn1 : ((n + 1 : Nat) : Int) = (n : Int) + 1 := by omega
    have hz : (((n + 1 : Nat) : Int) == 0) = false := by simp; omega
    have hz2 : (((n : Int) + 1) == 0) = false := by simp; omega
    clear hS hn
    by_cases hc : x < x0
    · have d1 : decide (x < x0) = true := by simpa using hc
      rw [show lookZ ((x0, y0) :: r) x = (false, x0) from if_pos hc]
      go_enter Tryz.func131, Tryz.ntmps131
      go_wp2_with fail
      go_quiet (fail)
      go_wp2_with fail
      go_ret2
      exact ⟨rfl, below_drewN (Below.refl _ _) _⟩
    · have d1 : decide (x < x0) = false := by simpa using hc
      rw [show lookZ ((x0, y0) :: r) x = (true, y0) from if_neg hc]
      go_enter Tryz.func131, Tryz.ntmps131
      go_wp2_with fail
      go_quiet (fail)
      go_wp2_with fail
      go_ret2
      exact ⟨rfl, below_drewN (Below.refl _ _) _⟩

/-- The spans of l lie at p, below n₀ and not in K. -/
def ShK (w : World) (K n₀ : Nat) (p : Option Addr) (sh : List (Int × Int)) : Prop :=
  ∀ i, i < sh.length → ∃ b o, p = some ⟨b, o, none⟩ ∧ (b < n₀ ∧ b ≠ K) ∧ w.cell? ⟨b, o + i * 2, none⟩ = some (iv (sh.getD i (0, 0)).1) ∧ w.cell? ⟨b, o + i * 2 + 1, none⟩ = some (iv (sh.getD i (0, 0)).2)
theorem ShK.sh {w : World} {K n₀ : Nat} {p : Option Addr} {l : List (Int × Int)} (h : ShK w K n₀ p l) : ShAt w n₀ p l := fun i hi => by
  obtain ⟨b, o, h1, h2, h3, h4⟩ := h i hi
  exact ⟨b, o, h1, h2.1, h3, h4⟩
theorem ShK.turns {A B : World} {K n₀ : Nat} {p : Option Addr} {l : List (Int × Int)} {M : Nat → Prop} (h : ShK A K n₀ p l) (ht : Turns M A B) (hn : n₀ ≤ A.heap.size) (hM : ∀ j, M j → n₀ ≤ j ∨ j = K) : ShK B K n₀ p l := fun i hi => by
  obtain ⟨b, o, h1, h2, h3, h4⟩ := h i hi
  have e : B.heap[b]? = A.heap[b]? := ht.block b (by omega) (fun hm => by have := hM b hm; omega)
  exact ⟨b, o, h1, h2, (World.cell?_of_block (a := ⟨b, _, none⟩) e).trans h3, (World.cell?_of_block (a := ⟨b, _, none⟩) e).trans h4⟩
theorem ShK.below {A B : World} {K n₀ : Nat} {p : Option Addr} {l : List (Int × Int)} (h : ShK A K n₀ p l) (hb : Below A.heap.size A B) (hn : n₀ ≤ A.heap.size) : ShK B K n₀ p l :=
  h.turns (M := fun _ => False) (Turns.of_below hb) hn (fun _ h => h.elim)

/-- A list and its room. -/
def Sc (K n₀ : Nat) (w : World) (l : List (Int × Int)) (e : Ending) (w' : World) : Prop := ∃ p cap, e = .returned (.slice p l.length cap) ∧ ShK w' K n₀ p l ∧ l.length ≤ cap ∧ Below w.heap.size w w'

set_option maxRecDepth 100000 in
set_option maxHeartbeats 1000000 in
theorem drop_any (p : Option Addr) (cap K n₀ : Nat) (l : List (Int × Int)) (x : Int) (w : World) (hn0 : n₀ ≤ w.heap.size) (hS : ShK w K n₀ p l) (hlen : l.length ≤ 100000) (hcap : l.length ≤ cap) :
    Calls Tryz.prog 132 #[.slice p l.length cap, iv x] w (Sc K n₀ w (dropZ l x)) := by
  rcases l with _ | ⟨s, r⟩
  · go_enter Tryz.func132, Tryz.ntmps132
    go_wp2_with fail
    go_ret
    exact ⟨_, _, rfl, (fun i hi => by cases hi), hcap, Below.refl _ _⟩
  · obtain ⟨b, o, rfl, hb, q0, q1⟩ := hS 0 (by simp)
    obtain ⟨x0, y0⟩ := s
    simp only [List.getD_cons_zero, Nat.zero_mul, Nat.add_zero] at q0 q1
    have hrest : ∀ pr, (cap ≠ 1 → pr = some ⟨b, o + 2, none⟩) → ShK w K n₀ pr r := fun pr hpr i hi => by
      obtain ⟨b', o', hp, hb', r0, r1⟩ := hS (i + 1) (by simp; omega)
      simp only [Option.some.injEq, Addr.mk.injEq] at hp
      obtain ⟨rfl, rfl, -⟩ := hp
      refine ⟨b, o + 2, hpr (by have := hcap; simp at this; omega), hb', ?_, ?_⟩
      · rw [show o + 2 + i * 2 = o + (i + 1) * 2 by omega]; exact r0
      · rw [show o + 2 + i * 2 + 1 = o + (i + 1) * 2 + 1 by omega]; exact r1
    have HR := Lib.hid hrest
    have HS := Lib.hid hS
    have hrl : ((x0, y0) :: r).length = r.length + 1 := rfl
    obtain ⟨n, hn⟩ : ∃ n, r.length = n := ⟨_, rfl⟩
    rw [hrl, hn] at hlen hcap ⊢
    have HN := Lib.hid hn
    have hn1 : (0 : Int) < ((n + 1 : Nat) : Int) := by omega
    have hn2 : (1 : Int) ≤ ((n + 1 : Nat) : Int) := by omega
    have hn3 : ((n + 1 : Nat) : Int) - 1 = (n : Int) := by omega
    clear hS hrest hn hrl
    by_cases hc : y0 = x
    · subst hc
      rw [show dropZ ((x0, y0) :: r) y0 = r from if_pos rfl]
      by_cases h1 : cap = 1
      · subst h1
        obtain rfl : n = 0 := by omega
        go_enter Tryz.func132, Tryz.ntmps132
        go_wp2_with fail
        go_ret
        exact ⟨_, _, by rw [HN.out]; rfl, HR.out _ (fun h => absurd rfl h), by have := HN.out; omega, Below.refl _ _⟩
      · go_enter Tryz.func132, Tryz.ntmps132
        go_wp2_with fail
        go_ret
        exact ⟨_, _, by rw [HN.out]; rfl, HR.out _ (fun _ => rfl), by have := HN.out; omega, Below.refl _ _⟩
    · rw [show dropZ ((x0, y0) :: r) x = (x0, y0) :: r from if_neg hc]
      have hc2 : (y0 == x) = false := by simpa using hc
      go_enter Tryz.func132, Tryz.ntmps132
      go_wp2_with fail
      go_ret
      exact ⟨_, _, by rw [← HN.out]; rfl, HS.out, by show r.length + 1 ≤ cap; have := HN.out; omega, Below.refl _ _⟩

theorem own_shc {w : World} {N : Nat} {v : Value} {l : List (Int × Int)} (h : w.ownsRow N 34 2 v l.length (spv l)) : ∃ p cap, v = .slice p l.length cap ∧ ShAt w w.heap.size p l ∧ l.length ≤ cap := by
  obtain ⟨p, cap, rfl, hS⟩ := own_sh h
  refine ⟨p, cap, rfl, hS, ?_⟩
  rcases h.2 with ⟨h1, h0⟩ | ⟨g, cap', cur, h1, _, _, hnc, _⟩
  · omega
  · cases h1; exact hnc

set_option maxRecDepth 100000 in
set_option maxHeartbeats 2000000 in
theorem norm_cap (p : Option Addr) (cap K : Nat) (l : List (Int × Int)) (w : World) (hS : ShAt w K p l) (hK : K < w.heap.size) (hlen : l.length ≤ 100000) (hcap : l.length ≤ cap) :
    Calls Tryz.prog 78 #[.slice p l.length cap] w fun e w' => Sc K w'.heap.size w (nrmZ l) e w' := by
  have hv := valid_any p cap l w (hS.mono (by omega)) hlen
  by_cases h : Asc l
  · rw [nrmZ_of h]
    rw [show ascB l = true from decide_eq_true h] at hv
    have HS := Lib.hid hS
    clear hS
    go_enter Tryz.func78, Tryz.ntmps78
    go_wp2_with fail
    refine hv.mono ?_
    rintro e w1 ⟨rfl, b1⟩
    go_wp2_with fail
    go_ret
    refine ⟨_, _, rfl, fun i hi => ?_, hcap, b1⟩
    obtain ⟨b, o, h1, h2, h3, h4⟩ := (HS.out.below (b1.mono (by omega))) i hi
    have := b1.size
    exact ⟨b, o, h1, by omega, h3, h4⟩
  · rw [show ascB l = false from decide_eq_false h] at hv
    have hn := fun W (hb : Below w.heap.size w W) => normal_own p cap l W ((hS.mono (by omega)).into hb) hlen
    clear hS
    go_enter Tryz.func78, Tryz.ntmps78
    go_wp2_with fail
    refine hv.mono ?_
    rintro e w1 ⟨rfl, b1⟩
    go_wp2_with fail
    refine (hn _ b1).mono ?_
    rintro e w2 ⟨v, rfl, ho, b2⟩
    have hlt := ho.lt
    obtain ⟨p2, c2, rfl, hS2, hc2⟩ := own_shc ho
    have hz1 := b1.size
    have hSK : ShK w2 K w2.heap.size p2 (nrmZ l) := fun i hi => by
      obtain ⟨b, o, h1, h2, h3, h4⟩ := hS2 i hi
      have := hlt b (by rw [h1]; rfl)
      exact ⟨b, o, h1, by omega, h3, h4⟩
    clear ho hlt hS2
    go_wp2_with fail
    go_ret
    exact ⟨_, _, rfl, hSK, hc2, bthen b1 b2⟩

def encP4 (x : Pc) : Array Value := #[.agg #[iv x.1.1, iv x.1.2, .bool x.2.1, .bool x.2.2]]
theorem dropZ_len (l : List (Int × Int)) (x : Int) : (dropZ l x).length ≤ l.length := by
  cases l with
  | nil => exact Nat.le_refl _
  | cons s r =>
    show (if s.2 = x then r else s :: r).length ≤ r.length + 1
    split <;> simp

set_option maxHeartbeats 1000000 in
theorem pieces_in (F : Fence) (n : Nat) (hf : F.fn 110) (hro : F.round = none) (pa pb : Option Addr) (na nb ca cb : Nat) (w : World) :
    CallsIn F n Tryz.prog 110 #[.slice pa na ca, .slice pb nb cb] w fun e w' => e = .returned (.func (.func 130) #[] #[.pointer (some ⟨w.heap.size, 0, none⟩), .pointer (some ⟨w.heap.size + 1, 0, none⟩)]) ∧ w' = (w.alloc (.cells #[.slice pa na ca] 40)).alloc (.cells #[.slice pb nb cb] 40) := by
  refine callsIn_of_wp Tryz.func110 rfl hf ?_ hro
  simp only [Tryz.ntmps110, List.size_toArray, List.length_cons, List.length_nil, Nat.reduceAdd, Nat.reduceSub, Array.replicate_succ, Array.replicate_zero, List.push_toArray, List.append_toArray, List.nil_append, List.cons_append]
  gi_wp2
  go_ret
  exact ⟨rfl, rfl⟩

set_option maxRecDepth 100000 in
set_option maxHeartbeats 4000000 in
theorem pieces_hands (n : Nat) (hn : 1 ≤ n) (A B K n₀ : Nat) (pa pb : Option Addr) (ca cb : Nat) (la lb : List (Int × Int)) (w : World)
    (hn0 : n₀ ≤ w.heap.size) (hA : Arr w A 40 [.slice pa la.length ca]) (hB : Arr w B 40 [.slice pb lb.length cb]) (hSa : ShK w K n₀ pa la) (hSb : ShK w K n₀ pb lb)
    (hla : la.length ≤ 100000) (hlb : lb.length ≤ 100000) (hca : la.length ≤ ca) (hcb : lb.length ≤ cb) (hIa : Inv (-9223372036854775808) la) (hIb : Inv (-9223372036854775808) lb) :
    Hands Fence.wide n Tryz.prog 130 #[.pointer (some ⟨A, 0, none⟩), .pointer (some ⟨B, 0, none⟩)] encP4 (fun k => k < n₀ ∧ k ≠ K) (allPc la lb) w := by
  have hwide : ∀ f, Fence.wide.fn f := fun _ => trivial
  have hro : Fence.wide.round = none := rfl
  intro l J Jx M0 W hW hM hJ hJx hY h0
  have hWs := hW.size
  have hAW := hA.below hW hA.lt
  have hBW := hB.below hW hB.lt
  have hSaW := hSa.below hW hn0
  have hSbW := hSb.below hW hn0
  have ac := hAW.cell (i := 0) rfl
  have bc := hBW.cell (i := 0) rfl
  obtain ⟨T, hT⟩ : ∃ T, allPc la lb = T := ⟨_, rfl⟩
  rw [hT] at hY ⊢
  have HT := Lib.hid hT
  have hMC : ∀ k, M0 k → k < W.heap.size ∧ (n₀ ≤ k ∨ k = K) := fun k hk => by have := hM k hk; omega
  clear hA hB hSa hSb hM hT
  refine callsIn_of_wp Tryz.func130 rfl (hwide _) ?_ hro
  simp only [Tryz.ntmps130, List.size_toArray, List.length_cons, List.length_nil, Nat.reduceAdd, Nat.reduceSub, Array.replicate_succ, Array.replicate_zero, List.push_toArray, List.append_toArray, List.nil_append, List.cons_append]
  gi_wp2_with fail
  refine wpIn_region_quietR (by kernel_rfl) (by kernel_rfl) (by kernel_rfl) ?_
  repeat (gi_big_quiet_step (fail))
  refine wpQuietIn_nil ?_
  intro W6 hw'
  obtain ⟨nq, hw''⟩ := hw'
  have b6 : Below W.heap.size W W6 := by rw [hw'']; exact below_drewN (Below.refl _ _) nq
  have s6 : W6.heap.size = W.heap.size := by rw [hw'']; rfl
  clear hw'' ac bc hAW hBW
  have hJ0 := hJ _ _ _ _ h0 (Turns.of_below b6)
  have hSa6 := hSaW.below b6 (by omega)
  have hSb6 := hSbW.below b6 (by omega)
  have hM6 : ∀ k, M0 k → k < W6.heap.size ∧ (n₀ ≤ k ∨ k = K) := fun k hk => by have := hMC k hk; omega
  have hW6 : n₀ ≤ W6.heap.size := by omega
  clear hSaW hSbW h0 hMC
  gi_wp2_with fail
  gi_loopw [4, 5, 6] (fun s4 s5 s6 wr => ∃ (bg : Int) (ra rb : List (Int × Int)) (pa pb : Option Addr) (ca cb fu : Nat) (pre : List Pc) (M : Nat → Prop), s4 = .int .i64 bg ∧ s5 = .slice pa ra.length ca ∧ s6 = .slice pb rb.length cb ∧ ShK wr K n₀ pa ra ∧ ShK wr K n₀ pb rb ∧ ra.length ≤ ca ∧ rb.length ≤ cb ∧ ra.length ≤ 100000 ∧ rb.length ≤ 100000 ∧ Inv bg ra ∧ Inv bg rb ∧ -9223372036854775808 ≤ bg ∧ bg ≤ 9223372036854775807 ∧ (9223372036854775807 - bg).toNat ≤ fu ∧ T = pre ++ piecesZ fu bg ra rb ∧ J pre M wr ∧ (∀ j, M j → j < wr.heap.size ∧ (n₀ ≤ j ∨ j = K)) ∧ n₀ ≤ wr.heap.size ∧ W.heap.size ≤ wr.heap.size) (fun s4 _ _ _ => (9223372036854775807 - intOf s4).toNat)
  case atStart =>
    exact ⟨_, la, lb, pa, pb, ca, cb, 18446744073709551615, [], M0, rfl, rfl, rfl, hSa6, hSb6, hca, hcb, hla, hlb, hIa, hIb, by omega, by omega, by omega, by rw [← HT.out]; rfl, hJ0, hM6, hW6, by omega⟩
  case round =>
    clear hJ0 hSa6 hSb6 hM6 hca hcb hla hlb hIa hIb HT hW6
    obtain ⟨bg, ra, rb, pa, pb, ca, cb, fu, pre, M, rfl, rfl, rfl, hSa, hSb, hca, hcb, hla, hlb, hIa, hIb, g0, g1, hfu, hT, hJs, hMs, hn1, hWr⟩ := hrel
    by_cases hne : ra = [] ∧ rb = []
    · obtain ⟨rfl, rfl⟩ := hne
      have hP : T = pre := by
        rw [hT]
        cases fu <;> simp [piecesZ]
      have HP := Lib.hid hP
      clear hT hP hSa hSb hIa hIb
      gi_wp2_with fail
      go_end0
      exact ⟨⟨_, rfl⟩, .inl ⟨M, by rw [HP.out]; exact hJs⟩⟩
    · have hbl := bg_lt hIa hIb hne
      have k1 := look_ok hIa hbl
      have k2 := look_ok hIb hbl
      obtain ⟨f1, rfl⟩ : ∃ f, fu = f + 1 := ⟨fu - 1, by omega⟩
      have hT2 : T = pre ++ ((bg, min (lookZ ra bg).2 (lookZ rb bg).2), (lookZ ra bg).1, (lookZ rb bg).1) :: piecesZ f1 (min (lookZ ra bg).2 (lookZ rb bg).2) (dropZ ra (min (lookZ ra bg).2 (lookZ rb bg).2)) (dropZ rb (min (lookZ ra bg).2 (lookZ rb bg).2)) := by
        rw [hT]; congr 1; exact if_neg hne
      have hla1 := fun W (h : Below wr.heap.size wr W) => look_any pa ca ra bg W ((hSa.below h hn1).sh.mono (by have := h.size; omega)) hla
      have hlb1 := fun W (h : Below wr.heap.size wr W) => look_any pb cb rb bg W ((hSb.below h hn1).sh.mono (by have := h.size; omega)) hlb
      obtain ⟨en, hen⟩ : ∃ en, min (lookZ ra bg).2 (lookZ rb bg).2 = en := ⟨_, rfl⟩
      rw [hen] at hT2
      obtain ⟨p1, -, -, -, -⟩ := drop_ok hIa (en := en) (by omega) (by omega)
      obtain ⟨q1, -, -, -, -⟩ := drop_ok hIb (en := en) (by omega) (by omega)
      generalize lookZ ra bg = X1 at hla1 k1 hen hT2
      generalize lookZ rb bg = X2 at hlb1 k2 hen hT2
      obtain ⟨F1, E1⟩ := X1
      obtain ⟨F2, E2⟩ := X2
      dsimp only at hla1 hlb1 k1 k2 hen hT2
      have hda := fun W (h : ShK W K n₀ pa ra) (h0 : n₀ ≤ W.heap.size) => drop_any pa ca K n₀ ra en W h0 h hla hca
      have hdb := fun W (h : ShK W K n₀ pb rb) (h0 : n₀ ≤ W.heap.size) => drop_any pb cb K n₀ rb en W h0 h hlb hcb
      have hdal := dropZ_len ra en
      have hdbl := dropZ_len rb en
      have hor : (0 < ra.length) ∨ (ra.length = 0 ∧ 0 < rb.length) := by
        rcases ra with _ | ⟨s, r⟩
        · rcases rb with _ | ⟨t, u⟩
          · exact absurd ⟨rfl, rfl⟩ hne
          · exact .inr ⟨rfl, by simp⟩
        · exact .inl (by simp)
      generalize dropZ ra en = RA at p1 hda hdal hT2
      generalize dropZ rb en = RB at q1 hdb hdbl hT2
      obtain ⟨na, hna⟩ : ∃ na, ra.length = na := ⟨_, rfl⟩
      obtain ⟨nb, hnb⟩ : ∃ nb, rb.length = nb := ⟨_, rfl⟩
      rw [hna] at hla1 hda hor hca hla hdal ⊢
      rw [hnb] at hlb1 hdb hor hcb hlb hdbl ⊢
      have HT2 := Lib.hid hT2
      have HSa := Lib.hid hSa
      have HSb := Lib.hid hSb
      have HP1 := Lib.hid p1
      have HQ1 := Lib.hid q1
      obtain ⟨k3, k4⟩ := k1
      obtain ⟨k5, k6⟩ := k2
      have hbe : bg < en := by omega
      have heM : en ≤ 9223372036854775807 := by omega
      have hMs' := Lib.hid hMs
      clear hT hT2 hSa hSb hIa hIb hne p1 q1 hMs hna hnb
      rcases hor with h1 | ⟨rfl, h1⟩
      · have h1' : (0 : Int) < (na : Int) := by omega
        gi_wp2_with fail
        refine (callsIn_wide.2 (hla1 _ (Below.refl _ _))).mono ?_
        rintro e w1 ⟨rfl, b1⟩
        gi_wp2_with fail
        refine (callsIn_wide.2 (hlb1 _ b1)).mono ?_
        rintro e w2 ⟨rfl, b2⟩
        have b02 := bthen b1 b2
        have hJ2 := hJ _ _ _ _ hJs (Turns.of_below b02)
        have z2 := b02.size
        clear hla1 hlb1
        gi_wp2_with fail
        obtain ⟨fn, tmps, assign, body, hy, hR⟩ := hY pre ((bg, en), F1, F2) M w2 hJ2 ⟨piecesZ f1 en RA RB, by rw [HT2.out]; simp⟩
        unfold encP4 at hy
        dsimp only at hy
        rw [hy]
        gi_wp2
        refine hR.mono ?_
        rintro e W3 ⟨M', (⟨rfl, hG, hJ3⟩ | ⟨rfl, hJx3⟩)⟩
        · have m0 : ∀ j, M' j → j < W3.heap.size ∧ (n₀ ≤ j ∨ j = K) := fun j hj => by
            have h1 := hG.lt j hj
            rcases hG.new j hj with h | h
            · have := hMs'.out j h; exact ⟨h1, this.2⟩
            · exact ⟨h1, by omega⟩
          have hSa3 := (HSa.out.below b02 hn1).turns hG.turns (by omega) (fun j hj => (m0 j hj).2)
          have hSb3 := (HSb.out.below b02 hn1).turns hG.turns (by omega) (fun j hj => (m0 j hj).2)
          have z3 := hG.turns.size
          have HM0 := Lib.hid m0
          have hda3 := hda W3 hSa3 (by omega)
          have hdb3 := fun W4 (h : Below W3.heap.size W3 W4) => hdb W4 (hSb3.below h (by omega)) (by have := h.size; omega)
          clear hR hJ2 m0 hSa3 hSb3 hda hdb
          gi_wp2_with fail
          refine (callsIn_wide.2 hda3).mono ?_
          rintro e w4 ⟨pa4, ca4, rfl, hSa4, hca4, b4⟩
          gi_wp2_with fail
          refine (callsIn_wide.2 (hdb3 _ b4)).mono ?_
          rintro e w5 ⟨pb5, cb5, rfl, hSb5, hcb5, b5⟩
          have b35 := bthen b4 b5
          have z4 := b4.size
          have z5 := b35.size
          have hSa5 := hSa4.below b5 (by omega)
          have hJ5 := hJ _ _ _ _ hJ3 (Turns.of_below b35)
          have hM5 : ∀ j, M' j → j < w5.heap.size ∧ (n₀ ≤ j ∨ j = K) := fun j hj => by have := HM0.out j hj; omega
          clear hda3 hdb3 hSa4
          gi_wp2_with fail
          exact ⟨⟨en, RA, RB, pa4, pb5, ca4, cb5, f1, pre ++ [((bg, en), F1, F2)], M', rfl, rfl, rfl, hSa5, hSb5, hca4, hcb5, by omega, by omega, HP1.out, HQ1.out, by omega, heM, by omega, by rw [HT2.out]; simp, hJ5, hM5, by omega, by omega⟩, by simp [intOf]; omega⟩
        · gi_wp2
          refine bodyPost_ret (results_none rfl _ _ _) rfl ?_
          exact ⟨⟨_, rfl⟩, .inr ⟨pre ++ [((bg, en), F1, F2)], M', ⟨piecesZ f1 en RA RB, by rw [HT2.out]; simp⟩, hJx3⟩⟩
      · have h1' : (0 : Int) < (nb : Int) := by omega
        gi_wp2_with fail
        refine (callsIn_wide.2 (hla1 _ (Below.refl _ _))).mono ?_
        rintro e w1 ⟨rfl, b1⟩
        gi_wp2_with fail
        refine (callsIn_wide.2 (hlb1 _ b1)).mono ?_
        rintro e w2 ⟨rfl, b2⟩
        have b02 := bthen b1 b2
        have hJ2 := hJ _ _ _ _ hJs (Turns.of_below b02)
        have z2 := b02.size
        clear hla1 hlb1
        gi_wp2_with fail
        obtain ⟨fn, tmps, assign, body, hy, hR⟩ := hY pre ((bg, en), F1, F2) M w2 hJ2 ⟨piecesZ f1 en RA RB, by rw [HT2.out]; simp⟩
        unfold encP4 at hy
        dsimp only at hy
        rw [hy]
        gi_wp2
        refine hR.mono ?_
        rintro e W3 ⟨M', (⟨rfl, hG, hJ3⟩ | ⟨rfl, hJx3⟩)⟩
        · have m0 : ∀ j, M' j → j < W3.heap.size ∧ (n₀ ≤ j ∨ j = K) := fun j hj => by
            have h1 := hG.lt j hj
            rcases hG.new j hj with h | h
            · have := hMs'.out j h; exact ⟨h1, this.2⟩
            · exact ⟨h1, by omega⟩
          have hSa3 := (HSa.out.below b02 hn1).turns hG.turns (by omega) (fun j hj => (m0 j hj).2)
          have hSb3 := (HSb.out.below b02 hn1).turns hG.turns (by omega) (fun j hj => (m0 j hj).2)
          have z3 := hG.turns.size
          have HM0 := Lib.hid m0
          have hda3 := hda W3 hSa3 (by omega)
          have hdb3 := fun W4 (h : Below W3.heap.size W3 W4) => hdb W4 (hSb3.below h (by omega)) (by have := h.size; omega)
          clear hR hJ2 m0 hSa3 hSb3 hda hdb
          gi_wp2_with fail
          refine (callsIn_wide.2 hda3).mono ?_
          rintro e w4 ⟨pa4, ca4, rfl, hSa4, hca4, b4⟩
          gi_wp2_with fail
          refine (callsIn_wide.2 (hdb3 _ b4)).mono ?_
          rintro e w5 ⟨pb5, cb5, rfl, hSb5, hcb5, b5⟩
          have b35 := bthen b4 b5
          have z4 := b4.size
          have z5 := b35.size
          have hSa5 := hSa4.below b5 (by omega)
          have hJ5 := hJ _ _ _ _ hJ3 (Turns.of_below b35)
          have hM5 : ∀ j, M' j → j < w5.heap.size ∧ (n₀ ≤ j ∨ j = K) := fun j hj => by have := HM0.out j hj; omega
          clear hda3 hdb3 hSa4
          gi_wp2_with fail
          exact ⟨⟨en, RA, RB, pa4, pb5, ca4, cb5, f1, pre ++ [((bg, en), F1, F2)], M', rfl, rfl, rfl, hSa5, hSb5, hca4, hcb5, by omega, by omega, HP1.out, HQ1.out, by omega, heM, by omega, by rw [HT2.out]; simp, hJ5, hM5, by omega, by omega⟩, by simp [intOf]; omega⟩
        · gi_wp2
          refine bodyPost_ret (results_none rfl _ _ _) rfl ?_
          exact ⟨⟨_, rfl⟩, .inr ⟨pre ++ [((bg, en), F1, F2)], M', ⟨piecesZ f1 en RA RB, by rw [HT2.out]; simp⟩, hJx3⟩⟩
end Go.Proofs.YtfannkpnmaeljaaGreatDoor

/- combine: what is wanted of the pieces. -/
namespace Go.Proofs.YtfannkpnmaeljaaGreatDoor
open Go.RowKit Go.Shelf
attribute [local go_sem] Oper.semAt_some

/-- The list kept lies in the box K. -/
def KeptAt (W : World) (K N : Nat) (M : Nat → Prop) (l : List (Int × Int)) : Prop :=
  ∃ v, Arr W K 40 [v] ∧ W.ownsRow N 34 2 v l.length (spv l) ∧ (∀ j, v.ownBlock = some j → M j ∧ j ≠ K) ∧ M K ∧ ∀ j, M j → K ≤ j
theorem KeptAt.turn {A W : World} {K N n : Nat} {M : Nat → Prop} {l : List (Int × Int)} (h : KeptAt A K N M l) (ht : Turns (fun k => n ≤ k ∧ ¬ M k) A W) : KeptAt W K N M l := by
  obtain ⟨v, h1, h2, h3, h4, h5⟩ := h
  exact ⟨v, ht.arr h1 (fun h => h.2 h4), ht.row h2 (fun j hj h => h.2 (h3 j hj).1), h3, h4, h5⟩

theorem grown_below {M : Nat → Prop} {W W' : World} (h : ∀ j, M j → j < W.heap.size) (b : Below W.heap.size W W') : Grown M M W W' :=
  ⟨fun _ hk => hk, fun _ hk => .inl hk, fun j hj => by have := h j hj; have := b.size; omega, Turns.of_below b⟩
theorem grown_after {M M' : Nat → Prop} {W W' W'' : World} (b : Below W.heap.size W W') (h : Grown M M' W' W'') : Grown M M' W W'' :=
  ⟨h.keep, fun k hk => by have := b.size; rcases h.new k hk with h' | h'; exact .inl h'; exact .inr (by omega), h.lt, (Turns.of_below b).trans h.turns⟩
theorem ShK.mono {w : World} {K n₀ n₁ : Nat} {p : Option Addr} {l : List (Int × Int)} (h : ShK w K n₀ p l) (hn : n₀ ≤ n₁) : ShK w K n₁ p l := fun i hi => by
  obtain ⟨b, o, h1, h2, h3, h4⟩ := h i hi
  exact ⟨b, o, h1, by omega, h3, h4⟩
theorem comb_len (f : Bool → Bool → Bool) (l : List Pc) : ∀ acc : List (Int × Int), (l.foldl (combStep f) acc).length ≤ acc.length + l.length := by
  induction l with
  | nil => intro acc; simp
  | cons s l ih =>
    intro acc
    rw [List.foldl_cons]
    have h1 := ih (combStep f acc s)
    have h2 : (combStep f acc s).length ≤ acc.length + 1 := by
      unfold combStep
      split
      · exact joinZ_len _ _
      · omega
    simp; omega
theorem kept_step {W w7 w8 : World} {K N : Nat} {M : Nat → Prop} {l' : List (Int × Int)} {v : Value} (h1 : Arr W K 40 [v]) (h3 : ∀ j, v.ownBlock = some j → M j ∧ j ≠ K) (h4 : M K) (h5 : ∀ j, M j → K ≤ j) (hMl : ∀ j, M j → j < W.heap.size)
    (b7 : Below W.heap.size W w7) {v' : Value} (o8 : w8.ownsRow N 34 2 v' l'.length (spv l')) (t8 : Turns (fun k => v.ownBlock = some k) w7 w8) (hn8 : ∀ j, v'.ownBlock = some j → v.ownBlock = some j ∨ w7.heap.size ≤ j) :
    ∃ M', Grown M M' W (w8.setCell ⟨K, 0, none⟩ v') ∧ KeptAt (w8.setCell ⟨K, 0, none⟩ v') K N M' l' := by
  have hKW := hMl K h4
  have z7 := b7.size
  have z8 := t8.size
  have hvK : v'.ownBlock ≠ some K := fun h => by
    rcases hn8 K h with h' | h'
    · exact (h3 K h').2 rfl
    · omega
  have hA8 := t8.arr (h1.below b7 hKW) (fun h => (h3 K h).2 rfl)
  refine ⟨fun j => M j ∨ v'.ownBlock = some j, ⟨fun k hk => .inl hk, fun k hk => ?_, fun k hk => ?_, ?_⟩, v', hA8.set 0 v', ownsRow_setCell_other o8 hvK v', fun j hj => ⟨.inr hj, fun e => hvK (by rw [hj, e])⟩, .inl h4, fun j hj => ?_⟩
  · rcases hk with h | h
    · exact .inl h
    · rcases hn8 k h with h' | h'
      · exact .inl (h3 k h').1
      · exact .inr (by omega)
  · rcases hk with h | h
    · have := hMl k h; simp; omega
    · have := (o8.lt k h).2; simpa using this
  · refine (((Turns.of_below b7).trans (t8.mono (fun k hk => ?_))).of_setCell (.inl ?_) v')
    · exact .inl (h3 k hk).1
    · exact .inl h4
  · rcases hj with h | h
    · exact h5 j h
    · rcases hn8 j h with h' | h'
      · exact h5 j (h3 j h').1
      · omega

set_option maxRecDepth 100000 in
set_option maxHeartbeats 4000000 in
theorem combine_any (g : Nat) (f : Bool → Bool → Bool) (eg : ∀ args w, (callFunc g args).run Tryz.prog w = .ok (.enter g args) w) (hw : ∀ (x y : Bool) W, Calls Tryz.prog g #[.agg #[.bool x, .bool y]] W fun e w' => e = .returned (.bool (f x y)) ∧ Below W.heap.size W w')
    (p q : Option Addr) (cp cq : Nat) (a b : List (Int × Int)) (w : World) (hA : ShAt w w.heap.size p a) (hB : ShAt w w.heap.size q b) (hla : a.length ≤ 20000) (hlb : b.length ≤ 20000) (hcp : a.length ≤ cp) (hcq : b.length ≤ cq) (hba : Bd a) (hbb : Bd b) :
    Calls Tryz.prog 88 #[.slice p a.length cp, .slice q b.length cq, .func (.func g) #[] #[]] w (Own w (combZ f a b)) := by
  have h1a := fun W (h : Below w.heap.size w W) (hK : w.heap.size + 1 < W.heap.size) => norm_cap p cp (w.heap.size + 1) a W ((hA.below h).mono (by omega)) hK (by omega) hcp
  have h1b := fun W (h : Below w.heap.size w W) (hK : w.heap.size + 1 < W.heap.size) => norm_cap q cq (w.heap.size + 1) b W ((hB.below h).mono (by omega)) hK (by omega) hcq
  have hia := inv_nrm hba
  have hib := inv_nrm hbb
  have hna := nrm_len a
  have hnb := nrm_len b
  unfold combZ
  generalize nrmZ a = A at h1a hia hna ⊢
  generalize nrmZ b = B at h1b hib hnb ⊢
  have hplen : (allPc A B).length ≤ 80000 := by
    have h1 := pieces_len 18446744073709551615 _ A B hia hib
    have h2 := mu_le (-9223372036854775808) A
    have h3 := mu_le (-9223372036854775808) B
    unfold allPc; omega
  obtain ⟨V, hV⟩ : ∃ V, (allPc A B).foldl (combStep f) [] = V := ⟨_, rfl⟩
  rw [hV]
  have HV := Lib.hid hV
  have HI := Lib.hid hia
  have HJ := Lib.hid hib
  have HPL := Lib.hid hplen
  clear hV hplen hA hB hba hbb hia hib
  refine (callsIn_wide (n := 5)).1 ?_
  have hwide : ∀ f, Fence.wide.fn f := fun _ => trivial
  have hro : Fence.wide.round = none := rfl
  have h1 : 1 ≤ 5 := by omega
  refine callsIn_of_wp_marks Tryz.func88 rfl (hwide _) ?_ hro
  simp only [Tryz.ntmps88, List.size_toArray, List.length_cons, List.length_nil, Nat.reduceAdd, Nat.reduceSub, Array.replicate_succ, Array.replicate_zero, List.push_toArray, List.append_toArray, List.nil_append, List.cons_append]
  gi_wp2_with fail
  obtain ⟨W0, hW0, b0, z0, kg, kk⟩ : ∃ W0, (w.alloc (.cells #[.func (.func g) #[] #[]] 106)).alloc (.cells #[.slice none 0 0] 40) = W0 ∧ Below w.heap.size w W0 ∧ W0.heap.size = w.heap.size + 2 ∧
      Arr W0 w.heap.size 106 [.func (.func g) #[] #[]] ∧ Arr W0 (w.heap.size + 1) 40 [.slice none 0 0] :=
    ⟨_, rfl, ((Below.refl _ w).alloc (Nat.le_refl _) _).alloc (by simp) _, by simp, (Arr.new w _ [.func (.func g) #[] #[]]).alloc _, Arr.new' _ [.slice none 0 0] (by simp)⟩
  try rw [hW0]
  clear hW0
  have hs0 : w.heap.size + 1 < W0.heap.size := by omega
  refine (callsIn_wide.2 (h1a _ b0 hs0)).mono ?_
  rintro e w1 ⟨pa, ca, rfl, hSa, hca, b1⟩
  have b01 := bthen b0 b1
  have z1 := b1.size
  have hs1 : w.heap.size + 1 < w1.heap.size := by omega
  have kg := kg.below b1 (by omega)
  have kk := kk.below b1 hs0
  gi_wp2_with fail
  refine (callsIn_wide.2 (h1b _ b01 hs1)).mono ?_
  rintro e w2 ⟨pb, cb, rfl, hSb, hcb, b2⟩
  have b02 := bthen b01 b2
  have z2 := b2.size
  have kg := kg.below b2 (by omega)
  have kk := kk.below b2 hs1
  have hSa2 := (hSa.below b2 (Nat.le_refl _)).mono z2
  have hs2 : w.heap.size + 1 < w2.heap.size := by omega
  clear hSa h1a h1b b0 b1 b2 b01 z0 z1 z2 hs0 hs1
  gi_wp2_with (gi_at_call 110; refine (pieces_in _ _ (hwide _) hro _ _ _ _ _ _ _).mono ?_; rintro e w' ⟨rfl, rfl⟩)
  obtain ⟨W3, hW3, b3, z3, kA, kB⟩ : ∃ W3, (w2.alloc (.cells #[.slice pa A.length ca] 40)).alloc (.cells #[.slice pb B.length cb] 40) = W3 ∧ Below w2.heap.size w2 W3 ∧ W3.heap.size = w2.heap.size + 2 ∧
      Arr W3 w2.heap.size 40 [.slice pa A.length ca] ∧ Arr W3 (w2.heap.size + 1) 40 [.slice pb B.length cb] :=
    ⟨_, rfl, ((Below.refl _ w2).alloc (Nat.le_refl _) _).alloc (by simp) _, by simp, (Arr.new w2 _ [.slice pa A.length ca]).alloc _, Arr.new' _ [.slice pb B.length cb] (by simp)⟩
  try rw [hW3]
  clear hW3
  have b03 := bthen b02 b3
  have kg := kg.below b3 (by omega)
  have kk := kk.below b3 hs2
  have hSa3 := hSa2.below b3 (Nat.le_refl _)
  have hSb3 := hSb.below b3 (Nat.le_refl _)
  have hh := pieces_hands 4 (by omega) w2.heap.size (w2.heap.size + 1) (w.heap.size + 1) w2.heap.size pa pb ca cb A B W3 (by omega) kA kB hSa3 hSb3 (by omega) (by omega) hca hcb HI.out HJ.out
  obtain ⟨N, hN⟩ : ∃ N, w.heap.size = N := ⟨_, rfl⟩
  obtain ⟨n₀, hn₀⟩ : ∃ n, w2.heap.size = n := ⟨_, rfl⟩
  obtain ⟨K, hK⟩ : ∃ K, N + 1 = K := ⟨_, rfl⟩
  rw [hN] at kg kk hh hs2 b03 ⊢
  rw [hn₀] at hh hs2 z3 ⊢
  rw [hK] at kk hh hs2 ⊢
  have hKN : N < K := by omega
  clear hSa2 hSb hSa3 hSb3 kA kB b02 b3 hK
  obtain ⟨T, hT⟩ : ∃ T, allPc A B = T := ⟨_, rfl⟩
  rw [hT] at hh
  have HTL : T.length ≤ 80000 := by rw [← hT]; exact HPL.out
  have HVT := Lib.hid (hT ▸ HV.out)
  clear HV hT HPL
  refine wpIn_rangeFunc_hands hro h1 (gf := 130) (lb := #[.pointer (some ⟨n₀, 0, none⟩), .pointer (some ⟨n₀ + 1, 0, none⟩)]) rfl (hwide _) (enters_of Tryz.func130 (by kernel_rfl) rfl)
    hh (Below.refl _ _) (fun _ => rfl)
    (fun pre M W => KeptAt W K N M (pre.foldl (combStep f) []) ∧ Arr W N 106 [.func (.func g) #[] #[]] ∧ Below N w W)
    (fun _ _ _ _ => False)
    (fun xs M A B h ht => by
      obtain ⟨e1, e2, e3⟩ := h
      obtain ⟨v, q1, q2, q3, q4, q5⟩ := e1
      exact ⟨⟨v, ht.arr q1 (fun h => h.2 q4), ht.row q2 (fun j hj h => h.2 (q3 j hj).1), q3, q4, q5⟩, ht.arr e2 (fun h => by have := h.1; omega), e3.trans (ht.below (by have := e3.size; omega) (fun k hk => by omega))⟩)
    (fun _ _ _ _ _ h _ => h)
    (fun k => k = K) (fun k hk => by subst hk; omega) ⟨⟨_, kk, World.ownsRow_nil _ _ _ _, (fun j hj => by cases hj), rfl, fun j hj => Nat.le_of_eq hj.symm⟩, kg, b03⟩ 135 (fun x => [iv x.1.1, iv x.1.2, .bool x.2.1, .bool x.2.2])
    ?a1 ?assign ?body ?done ?stop
  case assign =>
    intro l x W K hK
    unfold encP4
    gi_wp2
    have hK' := hK W.heap.size _ (Nat.le_refl _) ((Below.refl _ W).alloc (Nat.le_refl _) _) (Arr.new W 135 [iv x.1.1, iv x.1.2, .bool x.2.1, .bool x.2.2])
    clear hK
    generalize W.heap.size = g at *
    exact hK'
  case body =>
    rintro lp pre x gp M W ⟨hk, kgW, bW⟩ hpre kp hMg hMl hWs
    obtain ⟨⟨bg, en⟩, F1, F2⟩ := x
    obtain ⟨v, q1, q2, q3, q4, q5⟩ := hk
    have hpl : pre.length ≤ 80000 := by
      obtain ⟨t, ht⟩ := hpre
      have := congrArg List.length ht
      simp at this; omega
    have hll := comb_len f pre []
    have hfold : (pre ++ [((bg, en), F1, F2)]).foldl (combStep f) [] = combStep f (pre.foldl (combStep f) []) ((bg, en), F1, F2) := by rw [List.foldl_append]; rfl
    generalize pre.foldl (combStep f) [] = L at q2 hll hfold
    have hL : L.length ≤ 100000 := by simp at hll; omega
    dsimp only at kp
    have c0 := kp.cell (i := 0) rfl
    have c1 := kp.cell (i := 1) rfl
    have c2 := kp.cell (i := 2) rfl
    have c3 := kp.cell (i := 3) rfl
    have d0 := kgW.cell (i := 0) rfl
    have hwf := fun W => hw F1 F2 W
    obtain ⟨r, hr⟩ : ∃ r, f F1 F2 = r := ⟨_, rfl⟩
    rw [hr] at hwf
    have hstep : combStep f L ((bg, en), F1, F2) = if r = true then joinZ L (bg, en) else L := by unfold combStep; simp only; rw [hr]
    rw [hstep] at hfold
    have HFo := Lib.hid hfold
    clear hfold hstep hr hpre hh hw
    cases r with
    | false =>
      have HO := Lib.hid q2
      clear q2
      gi_wp2_with (gi_at_fn g; refine (CallsIn.inRound lp (callsIn_wide.2 (hwf _))).mono ?_; rintro e w7 ⟨rfl, b7⟩)
      have hKW := hMl K q4
      exact ⟨M, grown_below hMl b7, ⟨v, q1.below b7 hKW, by rw [HFo.out]; exact own_below HO.out b7, q3, q4, q5⟩, kgW.below b7 kgW.lt, bW.trans (b7.mono (by have := bW.size; omega))⟩
    | true =>
      have HO := Lib.hid q2
      have HM := Lib.hid hMl
      have hKW := hMl K q4
      have hNW : N ≤ W.heap.size := by omega
      clear q2 hMl
      gi_wp2_with fail
      refine (CallsIn.inRound lp (callsIn_wide.2 (hwf _))).mono ?_
      rintro e w7 ⟨rfl, b7⟩
      have z7 := b7.size
      have o7 := own_below HO.out b7
      have q17 := q1.below b7 hKW
      have kp7 := kp.below b7 kp.lt
      have hj := join_any bg en N v L w7 o7 (by omega) hL
      have c0 := kp7.cell (i := 0) rfl
      have c1 := kp7.cell (i := 1) rfl
      have e0 := q17.cell (i := 0) rfl
      clear hwf c2 c3 d0 kp
      gi_wp2_with fail
      refine (CallsIn.inRound lp (callsIn_wide.2 hj)).mono ?_
      rintro e w8 ⟨v', rfl, o8, t8, hn8⟩
      have q18 := t8.arr q17 (fun h => (q3 K h).2 rfl)
      obtain ⟨M', hG, hK'⟩ := kept_step q1 q3 q4 q5 HM.out b7 o8 t8 hn8
      obtain ⟨p8, c8, rfl, -⟩ := own_sh o8
      have hKM : ∀ j, M' j → K ≤ j := by obtain ⟨_, _, _, _, _, h⟩ := hK'; exact h
      have e0 := q18.cell (i := 0) rfl
      have f0 := q18.frozen 0
      have HG := Lib.hid hG
      have HK := Lib.hid hK'
      clear hj o7 o8 t8 hn8 c0 c1 hG hK' q1 q17 kp7
      gi_wp2_with fail
      exact ⟨M', HG.out, by rw [HFo.out, if_pos trivial]; exact HK.out, HG.out.turns.arr kgW (fun h => by have := hKM _ h; omega), bW.trans (HG.out.turns.below hNW (fun k hk => by have := hKM k hk; omega))⟩
  case done =>
    rintro D M W hD hMD ⟨⟨v, q1, q2, q3, q4, q5⟩, e8, e9⟩ hKd
    rw [HVT.out] at q2
    have c3 := q1.cell (i := 0) rfl
    have HO := Lib.hid q2
    clear q2
    gi_wp2
    refine ⟨by simp, .inl ⟨_, _, rfl, run_takeDeferred hKd, ?_⟩⟩
    refine ⟨_, results_tmp rfl _ _ _, v, rfl, ?_, ?_⟩
    · rw [hN]; exact ((Turns.refl (fun j => j = D) W).of_put rfl _).row HO.out (fun j hj h => hMD (h ▸ (q3 j hj).1))
    · exact hN ▸ e9.trans (belowK_b (w := w) (by omega) W D _ _ (by omega) hKd rfl rfl)
  case stop =>
    rintro D c pre M W hD hMD hpre h hKd
    exact h.elim

theorem union_any (p q : Option Addr) (cp cq : Nat) (a b : List (Int × Int)) (w : World) (hA : ShAt w w.heap.size p a) (hB : ShAt w w.heap.size q b) (hla : a.length ≤ 20000) (hlb : b.length ≤ 20000) (hcp : a.length ≤ cp) (hcq : b.length ≤ cq) (hba : Bd a) (hbb : Bd b) :
    Calls Tryz.prog 103 #[.slice p a.length cp, .slice q b.length cq] w (Own w (uniZ a b)) := by
  have hc := combine_any 125 (fun x y => x || y) (enters_of Tryz.func125 (by kernel_rfl) rfl) (fun x y W => either_any x y W) p q cp cq a b w hA hB hla hlb hcp hcq hba hbb
  rw [comb_or hba hbb] at hc
  generalize uniZ a b = V at hc ⊢
  clear hA hB
  go_enter Tryz.func103, Tryz.ntmps103
  go_wp2_with fail
  refine hc.mono ?_
  rintro e w1 ⟨v, rfl, o1, b1⟩
  have HO := Lib.hid o1
  clear o1
  go_wp2_with fail
  go_ret
  exact ⟨_, rfl, HO.out, b1⟩
theorem subtract_any (p q : Option Addr) (cp cq : Nat) (a b : List (Int × Int)) (w : World) (hA : ShAt w w.heap.size p a) (hB : ShAt w w.heap.size q b) (hla : a.length ≤ 20000) (hlb : b.length ≤ 20000) (hcp : a.length ≤ cp) (hcq : b.length ≤ cq) (hba : Bd a) (hbb : Bd b) :
    Calls Tryz.prog 104 #[.slice p a.length cp, .slice q b.length cq] w (Own w (subZ a b)) := by
  have hc := combine_any 126 (fun x y => x && !y) (enters_of Tryz.func126 (by kernel_rfl) rfl) (fun x y W => first_any x y W) p q cp cq a b w hA hB hla hlb hcp hcq hba hbb
  rw [comb_sub hba hbb] at hc
  generalize subZ a b = V at hc ⊢
  clear hA hB
  go_enter Tryz.func104, Tryz.ntmps104
  go_wp2_with fail
  refine hc.mono ?_
  rintro e w1 ⟨v, rfl, o1, b1⟩
  have HO := Lib.hid o1
  clear o1
  go_wp2_with fail
  go_ret
  exact ⟨_, rfl, HO.out, b1⟩
end Go.Proofs.YtfannkpnmaeljaaGreatDoor

/- Intersect. -/
namespace Go.Proofs.YtfannkpnmaeljaaGreatDoor
open Go.RowKit Go.Shelf

theorem both_any (a b : Bool) (w : World) : Calls Tryz.prog 89 #[.agg #[.bool a, .bool b]] w fun e w' => e = .returned (.bool (a && b)) ∧ Below w.heap.size w w' := by
  cases a <;> cases b <;>
  (go_enter Tryz.func89, Tryz.ntmps89
   go_wp2
   go_ret
   exact ⟨rfl, (Below.refl _ w).alloc (Nat.le_refl _) _⟩)
theorem inter_any (p q : Option Addr) (cp cq : Nat) (a b : List (Int × Int)) (w : World) (hA : ShAt w w.heap.size p a) (hB : ShAt w w.heap.size q b) (hla : a.length ≤ 20000) (hlb : b.length ≤ 20000) (hcp : a.length ≤ cp) (hcq : b.length ≤ cq) (hba : Bd a) (hbb : Bd b) :
    Calls Tryz.prog 67 #[.slice p a.length cp, .slice q b.length cq] w (Own w (intZ a b)) := by
  have hc := combine_any 89 (fun x y => x && y) (enters_of Tryz.func89 (by kernel_rfl) rfl) (fun x y W => both_any x y W) p q cp cq a b w hA hB hla hlb hcp hcq hba hbb
  rw [comb_and hba hbb] at hc
  generalize intZ a b = V at hc ⊢
  clear hA hB
  go_enter Tryz.func67, Tryz.ntmps67
  go_wp2_with fail
  refine hc.mono ?_
  rintro e w1 ⟨v, rfl, o1, b1⟩
  have HO := Lib.hid o1
  clear o1
  go_wp2_with fail
  go_ret
  exact ⟨_, rfl, HO.out, b1⟩
end Go.Proofs.YtfannkpnmaeljaaGreatDoor
