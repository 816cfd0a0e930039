/- slices.Grow and slices.Concat over strings. -/
import Derived.Test.YtfgojhhphknjkaaDoorDigBlk
import Derived.Test.YtfgojhhphknjkaaDoorDigPad
import Derived.Lib.AppendZerosOnto
namespace Go.Proofs.YtfgojhhphknjkaaDoor
open Go.RowKit

theorem infoStr : (Tryd.prog.info? 9).map (fun i => (i.zero, i.size, i.bytes)) = some (some (.string ⟨#[]⟩), 1, 16) := by kernel_rfl

theorem addr_plain (b off j : Nat) : (⟨b, off, none⟩ : Addr).add j = ⟨b, off + j, none⟩ := by unfold Addr.add; split <;> simp_all

def strv (ss : List ByteArray) : List Value := ss.map .string

set_option maxRecDepth 100000 in
set_option maxHeartbeats 1000000 in
theorem grow_any (n : Nat) (h1 : 1 ≤ n) (h2 : n ≤ 1000) (w : World) :
    Calls Tryd.prog 57 #[.slice none 0 0, .int .i64 n] w fun e w' => ∃ v, e = .returned v ∧ w'.ownsRow w.heap.size 9 1 v 0 [] ∧ Below w.heap.size w w' := by
  obtain ⟨i0, hi, hz0, hz1, hz2⟩ := info_parts infoStr
  have hge := grownCap_ge w n 0 9
  have hle := grownCap_le_maxLen w n 0 9 (by unfold maxLen; omega)
  have hfin : ∀ W : World, (∃ cs, W = (w.alloc (.cells cs 9)).drew ∧ cs.size = grownCap w n 0 9) → W.ownsRow w.heap.size 9 1 (.slice (some ⟨w.heap.size, 0, none⟩) 0 (grownCap w n 0 9)) 0 [] ∧ Below w.heap.size w W := by
    rintro W ⟨cs, rfl, hcs⟩
    exact ⟨⟨rfl, .inr ⟨w.heap.size, _, cs, rfl, Nat.le_refl _, heap_alloc_new _ _, Nat.zero_le _, hle, by omega, by simp⟩⟩, ((Below.refl _ w).alloc (Nat.le_refl _) _).drew⟩
  have hb : Tryd.t9.bytes = 16 := by kernel_rfl
  have hnc : Builtin.nextslicecap n 0 = n := by unfold Builtin.nextslicecap; rw [if_pos (by omega)]
  have hzc : ∀ k, (Builtin.zeroCells #[Value.string { data := #[] }] k).size = k := fun k => by simp [Builtin.zeroCells]
  go_enter Tryd.func57, Tryd.ntmps57
  go_wp2
  all_goals first
    | (go_ret; refine ⟨_, rfl, hfin _ ⟨_, rfl, ?_⟩⟩; rw [Array.size_append, hzc, hzc]; show n + (grownCap w n 0 9 - n) = _; omega)
    | (exfalso; simp only [hb, hnc] at *; omega)

/-- The slices of a slice: each with its strings. -/
structure Row where
  p : Option Addr
  cap : Nat
  ss : List ByteArray
def RowsAt (w : World) (a : Addr) (rs : List Row) : Prop := ∀ i (h : i < rs.length), w.cell? ⟨a.block, a.off + i, none⟩ = some (.slice rs[i].p rs[i].ss.length rs[i].cap)

set_option maxRecDepth 100000 in
set_option maxHeartbeats 2000000 in
theorem concat_any (B : Nat) (rs : List Row) (cap : Nat) (hr : rs.length ≤ 1000) (w : World) (hat : RowsAt w ⟨B, 0, none⟩ rs) (hin : ∀ r ∈ rs, StrsAt w r.p r.ss ∧ 1 ≤ r.ss.length) (h1 : 1 ≤ rs.length) (htot : ((rs.map Row.ss).flatten).length ≤ 1000) :
    Calls Tryd.prog 49 #[.slice (some ⟨B, 0, none⟩) rs.length cap] w fun e w' => ∃ v, e = .returned v ∧ w'.ownsRow w.heap.size 9 1 v ((rs.map Row.ss).flatten).length (strv (rs.map Row.ss).flatten) ∧ Below w.heap.size w w' := by
  obtain ⟨i0, hi, hz0, hz1, hz2⟩ := info_parts infoStr
  have HA := Lib.hid hat
  have HI := Lib.hid hin
  clear hat hin
  have hpre : Hid (∀ k, ((rs.take k).map Row.ss).flatten.length ≤ ((rs.map Row.ss).flatten).length) := Lib.hid (fun k => by
    conv => rhs; rw [← List.take_append_drop k rs]
    rw [List.map_append, List.flatten_append, List.length_append]; omega)
  have hstep : Hid (∀ k (h : k < rs.length), ((rs.take (k + 1)).map Row.ss).flatten = ((rs.take k).map Row.ss).flatten ++ rs[k].ss) := Lib.hid (fun k h => by
    rw [List.take_succ_eq_append_getElem h]; simp only [List.map_append, List.flatten_append, List.map_cons, List.map_nil, List.flatten_cons, List.flatten_nil, List.append_nil])
  go_enter Tryd.func49, Tryd.ntmps49
  go_wp2
  go_loop [3, 11] (fun s i => ∃ k : Nat, i = .int .i64 k ∧ k ≤ rs.length ∧ s = .int .i64 (((rs.take k).map Row.ss).flatten.length : Nat)) (fun _ i => rs.length - (intOf i).toNat)
  case atStart => exact ⟨0, rfl, by omega, rfl⟩
  case round =>
    obtain ⟨k, rfl, hk, rfl⟩ := hrel
    by_cases hk1 : k < rs.length
    · have c1 := HA.out k hk1
      simp only [Nat.zero_add] at c1
      have l1 := hpre.out (k + 1)
      have e1 := hstep.out k hk1
      have e2 := congrArg List.length e1
      rw [List.length_append] at e2
      have E1 : Hid (((rs.take (k + 1)).map Row.ss).flatten.length = ((rs.take k).map Row.ss).flatten.length + rs[k].ss.length) := Lib.hid e2
      rw [e2] at l1
      clear e1 e2
      generalize ((rs.take k).map Row.ss).flatten.length = x at *
      generalize rs[k] = r at *
      go_wp2
      go_round
      case rel => exact ⟨k + 1, by go_num, by omega, by rw [E1.out]; go_num⟩
      case measure => simp [intOf]; omega
    · have ek : k = rs.length := by omega
      have ex : ((rs.take k).map Row.ss).flatten = (rs.map Row.ss).flatten := by rw [ek, List.take_length]
      rw [ex]
      have hN1 : 1 ≤ ((rs.map Row.ss).flatten).length := by
        have a := hpre.out 1
        have b := hstep.out 0 h1
        have c := (HI.out rs[0] (List.getElem_mem h1)).2
        rw [b] at a
        rw [List.length_append] at a
        omega
      generalize hN : ((rs.map Row.ss).flatten).length = N at *
      go_wp2_with (go_at_call 57; refine (grow_any N hN1 htot _).mono ?_; rintro e w1 ⟨v1, rfl, own1, b1⟩)
      clear hN1
      go_loopw [6, 27] (fun v i wr => ∃ k : Nat, i = .int .i64 k ∧ k ≤ rs.length ∧ wr.ownsRow w.heap.size 9 1 v ((rs.take k).map Row.ss).flatten.length (strv ((rs.take k).map Row.ss).flatten) ∧ Below w.heap.size w wr) (fun _ i _ => rs.length - (intOf i).toNat)
      case atStart => exact ⟨0, rfl, by omega, own1, b1⟩
      case round =>
        clear own1 b1 hk hk1 ek ex
        obtain ⟨k, rfl, hk, own, hB⟩ := hrel
        by_cases hk1 : k < rs.length
        · obtain ⟨hs, hs1⟩ := HI.out _ (List.getElem_mem hk1)
          have c1 := HA.out k hk1
          simp only [Nat.zero_add] at c1
          have cB := cell_lt' c1
          replace c1 := (hB.cell (p := ⟨B, k, none⟩) cB).trans c1
          have l1 := hpre.out (k + 1)
          have e1 := hstep.out k hk1
          have e2 := congrArg List.length e1
          rw [List.length_append] at e2
          have E1 := Lib.hid e1
          rw [e2] at l1
          clear e1 e2
          generalize rs[k] = r at *
          obtain ⟨b, off, hp, _⟩ := hs 0 (by omega)
          have hnews : ∀ j u, (strv r.ss)[j]? = some u → wr.cell? ((⟨b, off, none⟩ : Addr).add j) = some u := by
            intro j u hj
            have hj1 : j < r.ss.length := by
              have := (List.getElem?_eq_some_iff.1 hj).1; simpa [strv] using this
            obtain ⟨b', off', hp', hc'⟩ := hs j hj1
            rw [hp] at hp'
            cases hp'
            have hu : u = .string r.ss[j] := by
              simp [strv, List.getElem?_eq_getElem hj1] at hj; exact hj.symm
            rw [addr_plain, (hB.cell (p := ⟨b, off + j, none⟩) (cell_lt' hc')), hc', hu]
          have hone : ∀ u ∈ strv r.ss, u.oneCell' = true := by
            intro u hu; simp only [strv, List.mem_map] at hu; obtain ⟨x, _, rfl⟩ := hu; rfl
          rw [hp] at c1
          clear hs hp
          generalize hX : ((rs.take k).map Row.ss).flatten = X at *
          have hXl : X.length + r.ss.length ≤ 1000 := by omega
          go_wp2_with (at_builtin; refine wpList_append_own _ rfl _ _ 22 rfl w.heap.size 9 i0 (.string ⟨#[]⟩) 1 16 Tryd.underlying22 hi hz0 hz1 hz2 rfl (by decide) _ _ _ rfl own ⟨b, off, none⟩ r.ss.length r.cap (strv r.ss) rfl (by simp [strv]) hnews hone (by unfold maxLen; omega) (by omega) (by have := hB.size; omega) ?_; intro v' w2 hown' hgrow _)
          have hle := own_le own
          go_roundw
          case rel =>
            refine ⟨k + 1, by go_num, by omega, ?_, hB.grown hgrow (by have := hB.size; omega) hle⟩
            rw [E1.out, List.length_append]
            simpa [strv] using hown'
          case measure => simp [intOf]; omega
        · have ek : k = rs.length := by omega
          rw [ek, List.take_length, hN] at own
          clear ek
          go_wp2
          go_ret
          refine ⟨_, rfl, ?_, hB⟩
          first | exact own | (rw [hN]; exact own)
end Go.Proofs.YtfgojhhphknjkaaDoor
