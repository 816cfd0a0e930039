/- The blocks of the parts. -/
import Derived.Test.YtfgojhhphknjkaaDoorDigGen
import Derived.Laws.CopyRow
import Derived.WalkMore
namespace Go.Proofs.YtfgojhhphknjkaaDoor
open Go.RowKit Go.Shelf
attribute [local go_sem] Oper.semAt_some

/-- A string's bytes as numbers. -/
def nb (s : ByteArray) : List Nat := s.data.toList.map UInt8.toNat
theorem nb_len (s : ByteArray) : (nb s).length = s.size := by simp [nb]
theorem nb_lt (s : ByteArray) : ∀ x ∈ nb s, x < 256 := by
  intro x hx
  simp only [nb, List.mem_map] at hx
  obtain ⟨b, _, rfl⟩ := hx
  exact b.toNat_lt
theorem byteCells_nb (s : ByteArray) : Lib.byteCells s.data.toList = u8s (nb s) := by simp [Lib.byteCells, u8s, nb]
theorem nb_extract (s : ByteArray) (a b : Nat) : nb (s.extract a b) = ((nb s).drop a).take (b - a) := by
  simp [nb, ByteArray.data_extract, Array.toList_extract, List.extract_eq_take_drop, List.map_take, List.map_drop]

theorem info1 : (Tryd.prog.info? 5).map (·.size) = some 1 := by kernel_rfl
theorem info64c : (Tryd.prog.info? 65).map (·.size) = some 64 := by kernel_rfl

/-- Bytes of a string laid into a row. -/
theorem copy_str (W : World) (g o : Nat) (dl dc : Nat) (t ty : TypeId) (blk : List Nat) (s : ByteArray) (n : Nat) (h : Arr W g t (u8s blk)) (hn : n = min s.size dl) (hfit : o + n ≤ blk.length) :
    (Builtin.copy_ #[40, 9] ty #[.slice (some ⟨g, o, none⟩) dl dc, .string s]).run Tryd.prog W = .ok (.int .i64 n) (W.setRow g (u8s (blk.take o ++ (nb s).take n ++ blk.drop (o + n))).toArray) := by
  have hlen : (u8s ((nb s).take n)).length = n := by rw [u8s_len, List.length_take, nb_len]; omega
  have hst := run_storeCells_at Tryd.prog g o t (u8s ((nb s).take n)) 0 _ W h (by rw [hlen]; simp [u8s_len]; omega) (fun v hv => by
    simp only [u8s, List.mem_map] at hv; obtain ⟨x, _, rfl⟩ := hv; rfl)
  rw [hlen] at hst
  simp only [Nat.add_zero] at hst
  have htk : List.take n (List.map (fun b : UInt8 => Value.int IntKind.u8 (b.toNat : Int)) s.data.toList) = u8s ((nb s).take n) := by
    simp [u8s, nb, List.map_take]; rfl
  have hmin : Nat.min s.size dl = n := hn.symm
  cases hq : Tryd.prog.info? 5 with
  | none => have := info1; simp [hq] at this
  | some i =>
    have hs := info1
    simp [hq] at hs
    simp [Builtin.copy_, run_underlying Tryd.underlying40, Builtin.lenOf, Builtin.firstCells, sizeOf, typeInfo, hq, hmin]
    rw [htk, hst]
    simp [Result.andThen, u8s, goInt]

theorem wpListIn_load_row {F : Fence} {n : Nat} {P : Program} {ops : Array Oper} {rest : List Oper} {o : Oper} {a : Act} {w : World} {Q : Exit → Act → World → Prop} (k : Nat) (hk : o.dst = some k) (hgd : o.guard = none) (ty : TypeId) (x : Operand) (ho : o.op = .load ty x)
    (g : Nat) (hx : a.eval x = .pointer (some ⟨g, 0, none⟩)) (t : TypeId) (cs : Array Value) (fr : Nat × Nat) (d : TypeDesc) (hg : w.heap[g]? = some (.cells cs t fr))
    (hu : P.underlying ty = some d) (hd : (match d with | .struct _ | .array _ _ => true | _ => false) = true) (hi : (P.info? ty).map (·.size) = some cs.size)
    (h : wpListIn F n P ops Q rest (a.put o.dst (.agg cs)) w) : wpListIn F n P ops Q (o :: rest) a w := by
  refine wpListIn_plain hgd fun K hK => ?_
  unfold Oper.wpIn
  refine ⟨by simp [Oper.about, ho], ?_⟩
  rw [Oper.semAt_plain F _ _ (by rw [ho]; intro c hc'; cases hc')]
  simp [execOp, ho, hx, Instr.loadAt, Instr.sureAddr, Sem.run_bind, Sem.run_pure, Result.andThen, run_loadVar_row w g t ty cs fr d hg hu hd hi]
  exact hK _ _ h

theorem wpListIn_moveAt {F : Fence} {n : Nat} {P : Program} {ops : Array Oper} {rest : List Oper} {o : Oper} {a : Act} {w : World} {Q : Exit → Act → World → Prop} (k : Nat) (hk : o.dst = some k) (hgd : o.guard = none) (x : Operand) (ho : o.op = .move x)
    (h : wpListIn F n P ops Q rest (a.put o.dst (a.eval x)) w) : wpListIn F n P ops Q (o :: rest) a w := by
  refine wpListIn_plain hgd fun K hK => ?_
  unfold Oper.wpIn
  refine ⟨by simp [Oper.about, ho], ?_⟩
  rw [Oper.semAt_plain F _ _ (by rw [ho]; intro c hc'; cases hc')]
  simp [execOp, ho, Sem.run_bind, Sem.run_pure, Result.andThen]
  exact hK _ _ h

/-- A scope through which the run goes without a goto, inside a fence. -/
theorem wpIn_scope {F : Fence} {n : Nat} {P : Program} {Q : Exit → Act → World → Prop} {a : Act} {w : World} {c : Code} (h : c.wpIn F n P (Exit.noGoto Q) a w) : (Code.scope c).wpIn F n P Q a w := by
  intro b k cs hro hb hr
  have h0 : (lone (b.atR a (.code (.scope c) :: k)) cs w).fenced P F := fenced_calm hb hr rfl
  have s1 : step P (lone (b.atR a (.code (.scope c) :: k)) cs w) = .next (lone (b.atR a (.code c :: .inScope c :: k)) cs w) := step_lone_go (by simp [stepG, stepG.exec, Frame.atR])
  obtain ⟨e, a₁, w₁, hq, harr⟩ := h b (.inScope c :: k) cs hro hb hr
  have s2 : step P (lone (b.atR a₁ (.inScope c :: k)) cs w₁) = .next (lone (b.atR a₁ k) cs w₁) := step_lone_go (by simp [stepG, stepG.exec, Frame.atR])
  cases e with
  | normal => exact ⟨.normal, a₁, w₁, hq, .head h0 s1 (StepsIn.trans harr (.one (fenced_calm hb hr rfl) s2))⟩
  | exit id =>
    have hx : exitTo id (.inScope c :: k) = exitTo id k := by simp [exitTo]
    exact ⟨.exit id, a₁, w₁, hq, fun k' hk => .head h0 s1 (harr.1 k' (by rw [hx]; exact hk)),
      fun hr' hk => let ⟨k₁, h1, h2⟩ := harr.2 hr' (by rw [hx]; exact hk); ⟨k₁, h1, .head h0 s1 h2⟩⟩
  | goto l => exact hq.elim
  | ret => exact ⟨_, a₁, w₁, hq, .of_steps (.one h0 s1) harr⟩
  | panic ch => exact ⟨_, a₁, w₁, hq, .of_steps (.one h0 s1) harr⟩
  | outgrown => exact ⟨_, a₁, w₁, hq, .of_steps (.one h0 s1) harr⟩

theorem cell_lt' {W : World} {a : Addr} {v : Value} (h : W.cell? a = some v) : a.block < W.heap.size := by
  rcases Nat.lt_or_ge a.block W.heap.size with h' | h'
  · exact h'
  · simp [World.cell?, Array.getElem?_eq_none h'] at h

/-- The bytes of the first parts. -/
def joinN (ss : List ByteArray) : List Nat := (ss.map nb).flatten

/-- The strings of a slice, in memory. -/
def StrsAt (W : World) (p : Option Addr) (ss : List ByteArray) : Prop := ∀ i (h : i < ss.length), ∃ b off, p = some ⟨b, off, none⟩ ∧ W.cell? ⟨b, off + i, none⟩ = some (.string ss[i])

theorem blocks_in (F : Fence) (n : Nat) (hf : F.fn 48) (hro : F.round = none) (v : Value) (w : World) (hv : v.oneCell' = true) :
    CallsIn F n Tryd.prog 48 #[v] w fun e w' => e = .returned (.func (.func 56) #[] #[.pointer (some ⟨w.heap.size, 0, none⟩)]) ∧ w' = w.alloc (.cells #[v] 22) := by
  refine callsIn_of_wp Tryd.func48 rfl hf ?_ hro
  simp only [Tryd.ntmps48, List.size_toArray, List.length_cons, List.length_nil, Nat.reduceAdd, Nat.reduceSub, Array.replicate_succ, Array.replicate_zero, List.push_toArray, List.append_toArray, List.nil_append, List.cons_append]
  gi_wp2
  go_ret
  exact ⟨rfl, rfl⟩

def strLen : Value → Nat
  | .string s => s.size
  | _ => 0

set_option maxRecDepth 100000 in
set_option maxHeartbeats 2000000 in
theorem blocks1_in (F : Fence) (n : Nat) (hf : F.fn 56) (hro : F.round = none) (hn : 1 ≤ n) (ss : List ByteArray) (p : Option Addr) (cap Bp S : Nat) (hl : ss.length ≤ 9223372036854775807) (hsz : ∀ s ∈ ss, s.size ≤ 9223372036854775807) (w : World)
    (hp : StrsAt w p ss) (hS : ∀ b off sp, p = some ⟨b, off, sp⟩ → b ≠ S) (hpl : ∀ b off sp, p = some ⟨b, off, sp⟩ → b < w.heap.size) (hBS : Bp ≠ S) (hSz : S < w.heap.size) (hBp : w.cell? ⟨Bp, 0, none⟩ = some (.slice p ss.length cap)) :
    Gives F n Tryd.prog 56 #[.pointer (some ⟨Bp, 0, none⟩)] (fun x : List Nat => #[.agg (u8s x).toArray]) (fun x => x.length = 64 ∧ ∀ y ∈ x, y < 256) S
      (fun xs => (∀ x ∈ xs, x.length = 64 ∧ ∀ y ∈ x, y < 256) ∧ ∃ cur : List Nat, cur.length < 64 ∧ xs.flatten ++ cur = joinN ss) w := by
  intro l J W hW hJ hY h0
  have hBl : Bp < w.heap.size := cell_lt' hBp
  have cBp : W.cell? ⟨Bp, 0, none⟩ = some (.slice p ss.length cap) := (hW.cell (p := ⟨Bp, 0, none⟩) hBl).trans hBp
  refine callsIn_of_wp Tryd.func56 rfl hf ?_ hro
  simp only [Tryd.ntmps56, List.size_toArray, List.length_cons, List.length_nil, Nat.reduceAdd, Nat.reduceSub, Array.replicate_succ, Array.replicate_zero, List.push_toArray, List.append_toArray, List.nil_append, List.cons_append]
  have cBp' : ∀ o, (W.alloc o).cell? ⟨Bp, 0, none⟩ = some (.slice p ss.length cap) := fun o => (((Below.refl W.heap.size W).alloc (Nat.le_refl _) o).cell (p := ⟨Bp, 0, none⟩) (by have := hW.size; show Bp < _; omega)).trans cBp
  clear cBp hBp
  have HP := Lib.hid hp
  have HS := Lib.hid hS
  have HPL := Lib.hid hpl
  have HZ := Lib.hid hsz
  have HY := Lib.hid hY
  have HJ := Lib.hid hJ
  clear hp hS hpl hsz hY hJ
  gi_wp2
  refine wpIn_scope ?_
  gi_wp2
  refine wpIn_label ?_
  gi_wp2
  clear cBp'
  gi_loopw [4, 10] (fun u i wr => ∃ (k c : Nat) (pre : List (List Nat)) (blk : List Nat), i = .int .i64 k ∧ u = .int .i64 c ∧ k ≤ ss.length ∧ c < 64 ∧ blk.length = 64 ∧ (∀ y ∈ blk, y < 256) ∧ (∀ x ∈ pre, x.length = 64 ∧ ∀ y ∈ x, y < 256) ∧ pre.flatten ++ blk.take c = joinN (ss.take k) ∧ J pre wr ∧ Besides S w wr ∧ Arr wr W.heap.size 65 (u8s blk)) (fun _ i _ => ss.length - (intOf i).toNat)
  case atStart =>
    refine ⟨0, 0, [], List.replicate 64 0, rfl, rfl, by omega, by omega, List.length_replicate, (fun y hy => by rw [List.eq_of_mem_replicate hy]; omega), (fun x hx => by cases hx), by simp only [joinN, List.take_zero, List.map_nil, List.flatten_nil, List.append_nil], HJ.out _ _ _ h0 ((Below.refl _ W).alloc (Nat.le_refl _) _), ?_, ?_⟩
    · exact ((Besides.refl S w).of_below hW (Nat.le_refl _)).of_below ((Below.refl w.heap.size W).alloc hW.size _) (Nat.le_refl _)
    · exact Arr.new _ _ (u8s (List.replicate 64 0))
  case round =>
    clear h0
    obtain ⟨k, c, pre, blk, rfl, rfl, hk, hc, hbl, hb256, hpre, hdat, hj, hbs, harr⟩ := hrel
    by_cases hk1 : k < ss.length
    · obtain ⟨b, off, hpe, hcell⟩ := HP.out k hk1
      have hbS := HS.out _ _ _ hpe
      have hbl' := HPL.out _ _ _ hpe
      subst hpe
      have hc1 := hbs.cell (p := ⟨b, off + k, none⟩) hbS hcell
      have hz1 := HZ.out _ (List.getElem_mem hk1)
      have hjoin : Hid (joinN (ss.take (k + 1)) = joinN (ss.take k) ++ nb ss[k]) := Lib.hid (by rw [List.take_succ_eq_append_getElem hk1]; simp only [joinN, List.map_append, List.flatten_append, List.map_cons, List.map_nil, List.flatten_cons, List.flatten_nil, List.append_nil])
      generalize hr0 : ss[k] = r0 at *
      have HD : Hid (pre.flatten ++ blk.take c ++ nb r0 = joinN (ss.take (k + 1))) := Lib.hid (by rw [hjoin.out, hdat])
      clear hcell hdat hr0
      gi_wp2
      clear hc1
      gi_loopw [4, 6] (fun u r wr => ∃ (c : Nat) (pre : List (List Nat)) (blk : List Nat) (rest : ByteArray), r = .string rest ∧ u = .int .i64 c ∧ c < 64 ∧ rest.size ≤ 9223372036854775807 ∧ blk.length = 64 ∧ (∀ y ∈ blk, y < 256) ∧ (∀ x ∈ pre, x.length = 64 ∧ ∀ y ∈ x, y < 256) ∧ Hid (pre.flatten ++ blk.take c ++ nb rest = joinN (ss.take (k + 1))) ∧ J pre wr ∧ Besides S w wr ∧ Arr wr W.heap.size 65 (u8s blk)) (fun _ r _ => strLen r)
      case atStart => exact ⟨c, pre, blk, r0, rfl, rfl, hc, hz1, hbl, hb256, hpre, HD, hj, hbs, harr⟩
      case round =>
        clear hbl hb256 hpre HD hj hbs harr hz1 hjoin hc
        obtain ⟨c, pre, blk, rest, rfl, rfl, hc, hz1, hbl, hb256, hpre, HD, hj, hbs, harr⟩ := hrel
        obtain ⟨m, hm, hm1, hm2⟩ : ∃ m : Nat, Hid (m = min rest.size (64 - c)) ∧ m ≤ rest.size ∧ c + m ≤ 64 := ⟨_, Lib.hid rfl, by omega, by omega⟩
        have hcp := copy_str wr W.heap.size c (64 - c) (64 - c) 65 3 blk rest m harr hm.out (by omega)
        have hnl : ((nb rest).take m).length = m := by rw [List.length_take, nb_len]; omega
        have hlen' : (blk.take c ++ (nb rest).take m ++ blk.drop (c + m)).length = 64 := by rw [List.length_append, List.length_append, hnl, List.length_take, List.length_drop, hbl]; omega
        have htk' : Hid ((blk.take c ++ (nb rest).take m ++ blk.drop (c + m)).take (c + m) = blk.take c ++ (nb rest).take m) := Lib.hid (by
          rw [List.take_append_of_le_length (by rw [List.length_append, hnl, List.length_take, hbl]; omega), List.take_of_length_le (by rw [List.length_append, hnl, List.length_take, hbl]; omega)])
        have hlt' : ∀ y ∈ (blk.take c ++ (nb rest).take m ++ blk.drop (c + m)), y < 256 := by
          intro y hy
          simp only [List.mem_append] at hy
          rcases hy with (hy | hy) | hy
          · exact hb256 y (List.mem_of_mem_take hy)
          · exact nb_lt rest y (List.mem_of_mem_take hy)
          · exact hb256 y (List.mem_of_mem_drop hy)
        have hW2 := below_setRow (Below.refl W.heap.size wr) (Nat.le_refl W.heap.size) (u8s (blk.take c ++ (nb rest).take m ++ blk.drop (c + m))).toArray
        have harr' := harr.row (blk.take c ++ (nb rest).take m ++ blk.drop (c + m) |> u8s)
        have hbs' := hbs.of_below hW2 hW.size
        have hj' := HJ.out _ _ _ hj hW2
        have HD' : Hid (pre.flatten ++ (blk.take c ++ (nb rest).take m) ++ (nb rest).drop m = joinN (ss.take (k + 1))) := Lib.hid (by rw [← HD.out]; simp only [List.append_assoc, List.take_append_drop])
        have hex : Hid (nb (rest.extract m rest.size) = (nb rest).drop m) := Lib.hid (by rw [nb_extract, List.take_of_length_le (by rw [List.length_drop, nb_len]; exact Nat.le_refl _)])
        have hmz : Hid (c + m < 64 → m = rest.size) := Lib.hid (by have := hm.out; omega)
        have hmp : Hid (c + m = 64 → 0 < m) := Lib.hid (by omega)
        generalize hblk' : (blk.take c ++ (nb rest).take m ++ blk.drop (c + m)) = blk' at *
        generalize hWr' : wr.setRow W.heap.size (u8s blk').toArray = Wr at *
        clear harr hbs hj HD hW2 hb256 hm hnl
        have i0 : (0 : Int) ≤ (c : Int) := by omega
        have i1 : (c : Int) ≤ 64 := by omega
        have i2 : (m : Int) ≤ (rest.size : Int) := by omega
        have i3 : (0 : Int) ≤ (m : Int) := by omega
        by_cases h64 : c + m < 64
        · have e1 := htk'.out
          have e2 := HD'.out
          rw [hmz.out h64, List.drop_of_length_le (by rw [nb_len]; exact Nat.le_refl _), List.append_nil, ← hmz.out h64, ← e1] at e2
          have E2 := Lib.hid e2
          clear e1 e2 htk' HD'
          gi_wp2
          go_roundw
          case rel => exact ⟨k + 1, c + m, pre, blk', by go_num, by go_num, by omega, h64, hlen', hlt', hpre, E2.out, hj', hbs', harr'⟩
          case measure => simp [intOf]; omega
        · have e64 : c + m = 64 := by omega
          have e1 := htk'.out
          rw [e64, List.take_of_length_le (by omega)] at e1
          have E2 : Hid ((pre ++ [blk']).flatten ++ blk'.take 0 ++ nb (rest.extract m rest.size) = joinN (ss.take (k + 1))) := Lib.hid (by
            rw [hex.out, ← HD'.out, ← e1]; simp)
          have hpre' : ∀ x ∈ pre ++ [blk'], x.length = 64 ∧ ∀ y ∈ x, y < 256 := by
            intro x hx
            rw [List.mem_append, List.mem_singleton] at hx
            rcases hx with hx | rfl
            · exact hpre x hx
            · exact ⟨hlen', hlt'⟩
          have hm0 := hmp.out e64
          have hsz' : (rest.extract m rest.size).size = rest.size - m := by rw [ByteArray.size_extract]; omega
          have hi64 : (Tryd.prog.info? 65).map (·.size) = some (u8s blk').toArray.size := by rw [info64c, List.size_toArray, u8s_len, hlen']
          clear e1 HD' htk' hex hmz hmp
          obtain ⟨fn, tmps, assign, body, hy, hR⟩ := HY.out pre blk' Wr hj' ⟨hlen', hlt'⟩
          generalize hcs : (u8s blk').toArray = cs at *
          have hrow : Wr.heap[W.heap.size]? = some (.cells cs 65 (0, 0)) := hcs ▸ harr'
          have hd : decide ((c : Int) + (m : Int) < 64) = false := by simp; omega
          gi_wp2_with (first | refine wpListIn_moveAt 26 rfl rfl _ rfl ?_ | refine wpListIn_load_row 27 rfl rfl 65 _ rfl W.heap.size rfl 65 cs (0, 0) _ hrow Tryd.underlying65 rfl hi64 ?_)
          refine hR.mono ?_
          rintro e W3 ⟨rfl, hj3, hb3⟩
          gi_wp2
          go_roundw
          case rel => exact ⟨0, pre ++ [blk'], blk', _, rfl, rfl, by omega, by rw [hsz']; omega, hlen', hlt', hpre', E2, hj3, hbs'.trans hb3, hb3.arr harr' (by have := hW.size; omega)⟩
          case measure => simp only [strLen]; rw [hsz']; omega
    · have ek : k = ss.length := by omega
      have e1 : pre.flatten ++ blk.take c = joinN ss := by rw [hdat, ek, List.take_length]
      have E1 := Lib.hid e1
      have hcl : (blk.take c).length < 64 := by rw [List.length_take]; omega
      clear hdat e1
      gi_wp2
      rw [Exit.noGoto_normal]
      go_end0
      exact ⟨⟨_, rfl⟩, pre, ⟨hpre, blk.take c, hcl, E1.out⟩, hj⟩
end Go.Proofs.YtfgojhhphknjkaaDoor
