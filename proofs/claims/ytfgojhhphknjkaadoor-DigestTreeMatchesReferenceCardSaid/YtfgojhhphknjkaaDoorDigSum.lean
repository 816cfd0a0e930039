/- SHA-256 of the parts. -/
import Derived.Test.YtfgojhhphknjkaaDoorDigCat
import Derived.Test.YtfgojhhphknjkaaDoorDigMix
namespace Go.Proofs.YtfgojhhphknjkaaDoor
open Go.RowKit Go.Shelf
attribute [local go_sem] Oper.semAt_some

def strNs (l : List Nat) : ByteArray := strOfNums (l.map fun x : Nat => (x : Int))
/-- The digest of the bytes. -/
def shaS (m : List Nat) : ByteArray := strNs (shaN m)

theorem padL_len (n : Nat) : (n + (padL n).length) % 64 = 0 := by
  rw [padL_eq]; simp [lens]; omega

theorem chunks_eq : ∀ (xs : List (List Nat)) (cur d : List Nat), (∀ x ∈ xs, x.length = 64) → xs.flatten ++ cur = d → cur.length < 64 → d.length % 64 = 0 → xs = chunks (d.length / 64) d
  | [], cur, d, _, h, hc, hd => by
    simp at h; subst h
    rw [show cur.length / 64 = 0 by omega]; rfl
  | x :: xs, cur, d, hx, h, hc, hd => by
    have hx1 := hx x (by simp)
    have hl : d.length = 64 + (xs.flatten ++ cur).length := by rw [← h]; simp [hx1]
    have ih := chunks_eq xs cur (xs.flatten ++ cur) (fun y hy => hx y (by simp [hy])) rfl hc (by omega)
    have hd2 : d = x ++ (xs.flatten ++ cur) := by rw [← h]; simp
    rw [hl, show (64 + (xs.flatten ++ cur).length) / 64 = (xs.flatten ++ cur).length / 64 + 1 by omega, chunks, hd2, List.take_left' hx1, List.drop_left' hx1, ← ih]

theorem foldl_lt (xs : List (List Nat)) : ∀ s : St, s.lt → (xs.foldl mix s).lt := by
  induction xs with
  | nil => exact fun s h => h
  | cons x xs ih => exact fun s h => ih _ (plus_lt _ _)
theorem ini_lt : ini.lt := by unfold St.lt; decide

theorem nb_strNs {l : List Nat} (h : ∀ x ∈ l, x < 256) : nb (strNs l) = l := by
  unfold nb strNs
  rw [strOfNums_data, List.map_map, List.map_map]
  conv => rhs; rw [← List.map_id l]
  refine List.map_congr_left fun x hx => ?_
  have := h x hx
  simp
  omega

set_option maxRecDepth 100000 in
theorem store64b (ws : Array Value) (hw : ws.size = 64) (h1 : ws.all (·.oneCell') = true) (W : World) : (storeCells ⟨W.heap.size, 0, none⟩ ws.toList 0).run Tryd.prog (W.alloc (.cells #[.int .u8 0, .int .u8 0, .int .u8 0, .int .u8 0, .int .u8 0, .int .u8 0, .int .u8 0, .int .u8 0, .int .u8 0, .int .u8 0, .int .u8 0, .int .u8 0, .int .u8 0, .int .u8 0, .int .u8 0, .int .u8 0, .int .u8 0, .int .u8 0, .int .u8 0, .int .u8 0, .int .u8 0, .int .u8 0, .int .u8 0, .int .u8 0, .int .u8 0, .int .u8 0, .int .u8 0, .int .u8 0, .int .u8 0, .int .u8 0, .int .u8 0, .int .u8 0, .int .u8 0, .int .u8 0, .int .u8 0, .int .u8 0, .int .u8 0, .int .u8 0, .int .u8 0, .int .u8 0, .int .u8 0, .int .u8 0, .int .u8 0, .int .u8 0, .int .u8 0, .int .u8 0, .int .u8 0, .int .u8 0, .int .u8 0, .int .u8 0, .int .u8 0, .int .u8 0, .int .u8 0, .int .u8 0, .int .u8 0, .int .u8 0, .int .u8 0, .int .u8 0, .int .u8 0, .int .u8 0, .int .u8 0, .int .u8 0, .int .u8 0, .int .u8 0] 65)) = .ok () (W.alloc (.cells ws 65)) :=
  run_storeCells_new W _ _ ws (by rw [hw]; exact info64c) (by rw [hw]; rfl) h1

theorem Arr.news4 (W : World) (t : TypeId) (us : List Value) : ∀ j u, us[j]? = some u → (W.alloc (.cells us.toArray t)).cell? ((⟨W.heap.size, 0, none⟩ : Addr).add j) = some u := by
  intro j u h
  rw [addr_plain, Nat.zero_add]
  exact (Arr.new W t us).cell h

theorem size_le_join {s : ByteArray} : ∀ {ss : List ByteArray}, s ∈ ss → s.size ≤ (joinN ss).length
  | x :: xs, h => by
    have e : (joinN (x :: xs)).length = x.size + (joinN xs).length := by simp [joinN, nb_len]
    rcases List.mem_cons.1 h with rfl | h
    · omega
    · have := size_le_join h; omega

theorem strsAt_own {W : World} {n₀ g cap : Nat} {ss : List ByteArray} (h : W.ownsRow n₀ 9 1 (.slice (some ⟨g, 0, none⟩) ss.length cap) ss.length (strv ss)) : StrsAt W (some ⟨g, 0, none⟩) ss := by
  intro i hi
  refine ⟨g, 0, rfl, ?_⟩
  rw [Nat.zero_add, h.cellAt i (by omega)]
  simp [strv, List.getElem?_eq_getElem hi]

theorem padL_lt (n : Nat) : ∀ x ∈ padL n, x < 256 := by
  intro x hx
  rw [padL_eq] at hx
  simp only [List.mem_cons, List.mem_append] at hx
  rcases hx with rfl | hx | hx
  · omega
  · rw [List.eq_of_mem_replicate hx]; omega
  · simp only [lens, List.mem_map] at hx
    obtain ⟨i, _, rfl⟩ := hx
    exact Nat.mod_lt _ (by omega)

theorem index8 (cs : Array Value) (k : Nat) (v : Value) (hk : k < 8) (hs : cs.size = 8) (h : cs[k]? = some v) (hv : v.cells = #[v]) (W : World) : (Instr.index 60 (.agg cs) (.int .i64 k)).run Tryd.prog W = .ok v W := by
  simp [Instr.index, run_underlying Tryd.underlying60, asIntOf]
  rw [if_pos hk]
  simp [part, isAgg, run_underlying Tryd.underlying54, h]

set_option maxRecDepth 100000 in
set_option maxHeartbeats 4000000 in
theorem sum_any (ss : List ByteArray) (p : Option Addr) (cap : Nat) (w : World) (hp : StrsAt w p ss) (h1 : 1 ≤ ss.length) (h2 : ss.length ≤ 900) (hsz : (joinN ss).length ≤ 1152921504606846975) (hK : KeysAt w) (h0 : 0 < w.heap.size) :
    Calls Tryd.prog 43 #[.slice p ss.length cap] w fun e w' => e = .returned (.string (shaS (joinN ss))) ∧ Below w.heap.size w w' := by
  have HP := Lib.hid hp
  have HK := Lib.hid hK
  clear hp hK
  have hpre : Hid (∀ k, (joinN (ss.take k)).length ≤ (joinN ss).length) := Lib.hid (fun k => by
    conv => rhs; rw [← List.take_append_drop k ss]
    simp only [joinN, List.map_append, List.flatten_append, List.length_append]; omega)
  have hstep : Hid (∀ k (h : k < ss.length), (joinN (ss.take (k + 1))).length = (joinN (ss.take k)).length + ss[k].size) := Lib.hid (fun k h => by
    rw [List.take_succ_eq_append_getElem h]; simp only [joinN, List.map_append, List.flatten_append, List.map_cons, List.map_nil, List.flatten_cons, List.flatten_nil, List.append_nil, List.length_append, nb_len])
  refine (callsIn_wide (n := 3)).1 ?_
  have hwide : ∀ f, Fence.wide.fn f := fun _ => trivial
  have hro : Fence.wide.round = none := rfl
  have hn1 : 1 ≤ 3 := by omega
  refine callsIn_of_wp_marks Tryd.func43 rfl (hwide _) ?_ hro
  simp only [Tryd.ntmps43, List.size_toArray, List.length_cons, List.length_nil, Nat.reduceAdd, Nat.reduceSub, Array.replicate_succ, Array.replicate_zero, List.push_toArray, List.append_toArray, List.nil_append, List.cons_append]
  gi_wp2
  gi_loopw [3, 13] (fun s i wr => ∃ k : Nat, i = .int .i64 k ∧ k ≤ ss.length ∧ s = .int .i64 ((joinN (ss.take k)).length : Nat) ∧ wr = w) (fun _ i _ => ss.length - (intOf i).toNat)
  case atStart => exact ⟨0, rfl, by omega, rfl, rfl⟩
  case round =>
    obtain ⟨k, rfl, hk, rfl, rfl⟩ := hrel
    by_cases hk1 : k < ss.length
    · obtain ⟨b, off, rfl, hcell⟩ := HP.out k hk1
      have l1 := hpre.out (k + 1)
      have E1 := Lib.hid (hstep.out k hk1)
      rw [E1.out] at l1
      generalize (joinN (ss.take k)).length = x at *
      generalize ss[k] = r at *
      gi_wp2
      go_roundw
      case rel => exact ⟨k + 1, by go_num, by omega, by rw [E1.out]; exact ⟨congrArg (Value.int .i64) (by omega), by first | trivial | rfl⟩⟩
      case measure => simp [intOf]; omega
    · have ek : k = ss.length := by omega
      have e1 : joinN (ss.take k) = joinN ss := by rw [ek, List.take_length]
      rw [e1]
      clear e1 hpre hstep
      generalize hM : (joinN ss).length = M at *
      gi_wp2_with (first | (gi_at_call 50; refine (callsIn_wide.2 (padding_any M hsz _)).mono ?_; rintro e w1 ⟨rfl, b1⟩))
      have bz := b1.size
      rw [World.size_alloc] at bz
      have HP' := HP.out
      have HK' := HK.out
      have A1 : Arr w1 wr.heap.size 60 (u32s ini.list) := Arr.below (Arr.new wr 60 (u32s ini.list)) b1 (by simp)
      have hB1 : Below wr.heap.size wr w1 := ((Below.refl _ wr).alloc (Nat.le_refl _) _).trans (b1.mono (by simp))
      clear b1
      have hpad : nb (strOfNums ((padL M).map fun x : Nat => (x : Int))) = padL M := nb_strNs (padL_lt M)
      generalize strOfNums ((padL M).map fun x : Nat => (x : Int)) = pad at *
      obtain ⟨w2, hw2⟩ : ∃ w2, w2 = ((w1.alloc (.cells #[.string pad] 9)).alloc (.cells #[.slice p ss.length cap, .slice (some ⟨w1.heap.size, 0, none⟩) 1 1] 22)) := ⟨_, rfl⟩
      have hB12 : Below w1.heap.size w1 w2 := by rw [hw2]; exact ((Below.refl _ w1).alloc (Nat.le_refl _) _).alloc (by simp) _
      have hz2 : w2.heap.size = w1.heap.size + 2 := by rw [hw2]; simp
      have r0 : Arr w2 (w1.heap.size + 1) 22 [.slice p ss.length cap, .slice (some ⟨w1.heap.size, 0, none⟩) 1 1] := by rw [hw2]; exact Arr.new' _ _ (by simp)
      have r1 : Arr w2 w1.heap.size 9 [.string pad] := by rw [hw2]; exact (Arr.new w1 _ [.string pad]).alloc _
      rw [← hw2]
      have hP2 : StrsAt w2 p ss := fun i hi => by
        obtain ⟨b, off, e, hc⟩ := HP' i hi
        exact ⟨b, off, e, ((hB1.trans (hB12.mono (by omega))).cell (p := ⟨b, off + i, none⟩) (cell_lt' hc)).trans hc⟩
      have hcat := concat_any (w1.heap.size + 1) [⟨p, cap, ss⟩, ⟨some ⟨w1.heap.size, 0, none⟩, 1, [pad]⟩] 2 (by simp) w2
        (fun i hi => by
          match i, hi with
          | 0, _ => exact r0.cell (i := 0) rfl
          | 1, _ => exact r0.cell (i := 1) rfl)
        (fun r hr => by
          simp only [List.mem_cons, List.not_mem_nil, or_false] at hr
          rcases hr with rfl | rfl
          · exact ⟨hP2, h1⟩
          · exact ⟨fun i hi => by
              match i, hi with
              | 0, _ => exact ⟨w1.heap.size, 0, rfl, r1.cell (i := 0) rfl⟩, Nat.le_refl _⟩) (by simp) (by simp; omega)
      have hfl : (([⟨p, cap, ss⟩, ⟨some ⟨w1.heap.size, 0, none⟩, 1, [pad]⟩] : List Row).map Row.ss).flatten = ss ++ [pad] := by simp
      rw [hfl] at hcat
      refine (callsIn_wide.2 hcat).mono ?_
      rintro e w3 ⟨v, rfl, own3, b3⟩
      clear hcat hP2
      have hbase := own_le own3
      obtain ⟨g, cap3, rfl⟩ := ownsRow_succ (k := ss.length) (by rw [List.length_append] at own3; exact own3)
      have hg := hbase g rfl
      rw [← show (ss ++ [pad]).length = ss.length + 1 by simp] at own3 ⊢
      have hP3 := strsAt_own own3
      have gz : g < w3.heap.size := by
        obtain ⟨b', o', e', hc'⟩ := hP3 0 (by simp)
        cases e'
        exact cell_lt' hc'
      have hjoin : joinN (ss ++ [pad]) = joinN ss ++ padL M := by simp [joinN, hpad]
      have hls : (ss ++ [pad]).length ≤ 901 := by simp; omega
      have hMl : (joinN (ss ++ [pad])).length % 64 = 0 ∧ (joinN (ss ++ [pad])).length ≤ 1152921504606847975 := by
        have := padL_len M
        have h2 : (padL M).length ≤ 72 := by rw [padL_eq]; simp [lens]; omega
        rw [hjoin, List.length_append, hM]; omega
      have hsz3 : ∀ s ∈ ss ++ [pad], s.size ≤ 9223372036854775807 := fun s hs => by have := size_le_join hs; omega
      have HJ := Lib.hid hjoin
      clear hjoin r0 r1 own3 hpad HP' hw2
      generalize ss ++ [pad] = ls at *
      gi_wp2_with (gi_at_call 48; refine (blocks_in _ _ (hwide _) hro _ _ rfl).mono ?_; rintro e w4 ⟨rfl, rfl⟩)
      have hB3 : Below wr.heap.size wr w3 := (hB1.trans (hB12.mono (by omega))).trans (b3.mono (by omega))
      have A3 : Arr w3 wr.heap.size 60 (u32s ini.list) := (A1.below hB12 (by omega)).below b3 (by omega)
      have z3 := b3.size
      have BP : (w3.alloc (.cells #[.slice (some ⟨g, 0, none⟩) ls.length cap3] 22)).cell? ⟨w3.heap.size, 0, none⟩ = some (.slice (some ⟨g, 0, none⟩) ls.length cap3) := (Arr.new w3 22 [.slice (some ⟨g, 0, none⟩) ls.length cap3]).cell (i := 0) rfl
      have hP4 : StrsAt (w3.alloc (.cells #[.slice (some ⟨g, 0, none⟩) ls.length cap3] 22)) (some ⟨g, 0, none⟩) ls := fun i hi => by
        obtain ⟨b, off, e, hc⟩ := hP3 i hi
        exact ⟨b, off, e, (((Below.refl _ w3).alloc (Nat.le_refl _) _).cell (p := ⟨b, off + i, none⟩) (cell_lt' hc)).trans hc⟩
      have I0 : Arr (w3.alloc (.cells #[.slice (some ⟨g, 0, none⟩) ls.length cap3] 22)) wr.heap.size 60 (u32s ini.list) ∧ Below wr.heap.size wr (w3.alloc (.cells #[.slice (some ⟨g, 0, none⟩) ls.length cap3] 22)) := ⟨A3.alloc _, hB3.alloc (by omega) _⟩
      have hz4 : (w3.alloc (.cells #[.slice (some ⟨g, 0, none⟩) ls.length cap3] 22)).heap.size = w3.heap.size + 1 := by simp
      generalize w3.alloc (.cells #[.slice (some ⟨g, 0, none⟩) ls.length cap3] 22) = w4 at *
      generalize hSn : wr.heap.size = S at *
      refine wpIn_rangeFunc_gives hro hn1 (gf := 56) (lb := #[.pointer (some ⟨w3.heap.size, 0, none⟩)]) rfl (hwide _) (enters_of Tryd.func56 (by kernel_rfl) rfl)
        (blocks1_in _ _ (hwide _) hro (by omega) ls (some ⟨g, 0, none⟩) cap3 w3.heap.size S (by omega) hsz3 w4 hP4 (fun b off sp e => by cases e; omega) (fun b off sp e => by cases e; omega) (by omega) (by omega) BP)
        (by omega) (Below.refl _ _) (fun _ => rfl)
        (fun pre W => Arr W S 60 (u32s (pre.foldl mix ini).list) ∧ Below S wr W)
        (fun xs A B h hb => ⟨h.1.below hb (by omega), h.2.trans (hb.mono (by omega))⟩) I0 65 u8s ?a1 ?assign ?body ?done
      case assign =>
        intro l x W K hR hK
        have hcl : (u8s x).toArray.size = 64 := by simp [u8s_len, hR.1]
        have hsc := store64b (u8s x).toArray hcl (u8s_one x) W
        have hb9 : Below W.heap.size W (W.alloc (.cells (u8s x).toArray 65)) := (Below.refl _ W).alloc (Nat.le_refl _) _
        have ha9 : Arr (W.alloc (.cells (u8s x).toArray 65)) W.heap.size 65 (u8s x) := Arr.new _ _ _
        generalize hcs : (u8s x).toArray = cs at *
        gi_wp2
        clear hsc hcl
        subst hcs
        generalize W.heap.size = gg at *
        exact hK gg _ (Nat.le_refl _) hb9 ha9
      case body =>
        rintro l pre x gg W ⟨hA, hB⟩ hR harr
        have hlt := foldl_lt pre ini ini_lt
        have HKW : KeysAt W := fun i hi => (hB.cell (p := ⟨0, i, none⟩) (by show 0 < _; omega)).trans (HK' i hi)
        have hkz : 0 < W.heap.size := by have := hB.size; omega
        have hmix := mixed_any (pre.foldl mix ini) hlt x hR.1 hR.2 W HKW hkz
        have hfold : Hid ((pre ++ [x]).foldl mix ini = mix (pre.foldl mix ini) x) := Lib.hid (by rw [List.foldl_append]; rfl)
        generalize hst0 : pre.foldl mix ini = st at *
        have hcl : (u8s x).toArray.size = 64 := by simp [u8s_len, hR.1]
        have hsl : (u32s st.list).toArray.size = 8 := by simp [u32s_len, St.list]
        have hol : (u32s (mix st x).list).toArray.size = 8 := by simp [u32s_len, St.list]
        have ho1 := u32s_one (mix st x).list
        have hir : (Tryd.prog.info? 65).map (·.size) = some (u8s x).toArray.size := by rw [hcl]; exact info64c
        have his : (Tryd.prog.info? 60).map (·.size) = some (u32s st.list).toArray.size := by rw [hsl]; exact info8
        have hst := fun (w5 : World) (h : Arr w5 S 60 (u32s st.list)) => h.store (P := Tryd.prog) (u32s (mix st x).list).toArray (by rw [hol]; exact info8) (by rw [hol, hsl]) ho1
        have hrow := fun (w5 : World) (h : Arr w5 S 60 (u32s st.list)) => h.row (u32s (mix st x).list)
        have harr' : W.heap[gg]? = some (.cells (u8s x).toArray 65 (0, 0)) := harr
        have hA' : W.heap[S]? = some (.cells (u32s st.list).toArray 60 (0, 0)) := hA
        generalize (u8s x).toArray = cs at *
        generalize (u32s st.list).toArray = ss0 at *
        generalize hout : (u32s (mix st x).list).toArray = out at *
        gi_wp2_with (first | refine wpListIn_load_row 31 rfl rfl 60 _ rfl S rfl 60 ss0 (0, 0) _ hA' Tryd.underlying60 rfl his ?_ | refine wpListIn_load_row 32 rfl rfl 65 _ rfl gg rfl 65 cs (0, 0) _ harr' Tryd.underlying65 rfl hir ?_)
        refine (CallsIn.inRound l (callsIn_wide.2 hmix)).mono ?_
        rintro e w5 ⟨rfl, b5⟩
        have a5 := hA.below b5 hA.lt
        have st5 := hst w5 a5
        have row5 := hrow w5 a5
        clear hst hrow hmix
        gi_wp2
        exact ⟨((Besides.refl S W).of_below b5 (Nat.le_refl _)).trans ⟨by simp, fun k hk hne => setRow_other _ _ _ _ hne⟩, below_setRow (hB.trans (b5.mono (by have := hB.size; omega))) (Nat.le_refl _) _⟩
      case done =>
        rintro D xs W hD ⟨hx, cur, hcur, hflat⟩ ⟨hA, hB⟩ hDd
        have hxs := chunks_eq xs cur (joinN ls) (fun x hx' => (hx x hx').1) hflat hcur hMl.1
        have hrl := foldl_lt xs ini ini_lt
        have hfin : Hid (shaN (joinN ss) = ((xs.foldl mix ini).list).flatMap word4) := Lib.hid (by
          rw [hxs, HJ.out, ← hM]; rfl)
        generalize xs.foldl mix ini = r at *
        clear hxs hx hflat hcur hP3 hP4 I0 BP A3 hsz3 HJ hMl HK' HK
        obtain ⟨i0, hi, hz0, hz1, hz2⟩ := info_parts infoU8
        have hsl : (u32s r.list).toArray.size = 8 := by simp [u32s_len, St.list]
        have his : (Tryd.prog.info? 60).map (·.size) = some (u32s r.list).toArray.size := by rw [hsl]; exact info8
        have hA' : W.heap[S]? = some (.cells (u32s r.list).toArray 60 (0, 0)) := hA
        have made32 : madeCells (Value.int .u8 0).cells (32 * 1) = (u8s (List.replicate 32 0)).toArray := by kernel_rfl
        have hmk : (Instr.makeSlice 40 (.int .i64 0) (.int .i64 32)).run Tryd.prog W = .ok (.slice (some ⟨W.heap.size, 0, none⟩) 0 32) (W.alloc (.cells (u8s (List.replicate 32 0)).toArray 5)) := by
          have h := run_make (P := Tryd.prog) W 40 5 i0 (.int .u8 0) Tryd.underlying40 hi hz0 .i64 .i64 0 32 (by omega) (by omega) (by rw [hz2]; omega) (by omega)
          rw [hz1, show (32 : Int).toNat = 32 from rfl, made32] at h
          exact h
        have own0 : (W.alloc (.cells (u8s (List.replicate 32 0)).toArray 5)).ownsRow W.heap.size 5 1 (.slice (some ⟨W.heap.size, 0, none⟩) 0 32) (4 * 0) (u8s ((r.list.take 0).flatMap word4)) :=
          ⟨rfl, .inr ⟨W.heap.size, 32, _, rfl, Nat.le_refl _, heap_alloc_new _ _, by omega, by unfold maxLen; omega, rfl, rfl⟩⟩
        have hb0 : Below W.heap.size W (W.alloc (.cells (u8s (List.replicate 32 0)).toArray 5)) := (Below.refl _ W).alloc (Nat.le_refl _) _
        have hA2 : (W.alloc (.cells (u8s (List.replicate 32 0)).toArray 5)).heap[S]? = some (.cells (u32s r.list).toArray 60 (0, 0)) := Arr.alloc hA _
        generalize (u8s (List.replicate 32 0)).toArray = c32 at *
        have hidx : Hid (∀ k (h : k < 8), (u32s r.list).toArray[k]? = some (.int .u32 ((r.list.getD k 0 : Nat) : Int))) := Lib.hid (fun k h => by
          rw [List.getElem?_toArray]; exact u32s_get (by simpa [St.list] using h))
        generalize (u32s r.list).toArray = ss0 at *
        gi_wp2_with (first | refine wpListIn_load_row 35 rfl rfl 60 _ rfl S rfl 60 ss0 (0, 0) _ hA2 Tryd.underlying60 rfl his ?_)
        clear hmk hA2 his
        generalize W.alloc (.cells c32 5) = W0 at *
        gi_loopw [8, 36] (fun v i wx => ∃ k : Nat, i = .int .i64 k ∧ k ≤ 8 ∧ wx.ownsRow W.heap.size 5 1 v (4 * k) (u8s ((r.list.take k).flatMap word4)) ∧ Below W.heap.size W wx) (fun _ i _ => 8 - (intOf i).toNat)
        case atStart => exact ⟨0, rfl, by omega, own0, hb0⟩
        case round =>
          clear own0 hb0
          obtain ⟨k, rfl, hk, own, hb⟩ := hrel
          by_cases hk8 : k < 8
          · have hx := hidx.out k hk8
            have hstep : Hid ((r.list.take (k + 1)).flatMap word4 = (r.list.take k).flatMap word4 ++ word4 (r.list.getD k 0)) := Lib.hid (by
              have : k < r.list.length := by simpa [St.list] using hk8
              rw [List.take_succ_eq_append_getElem this, List.flatMap_append]; simp [List.getD_eq_getElem?_getD, List.getElem?_eq_getElem this])
            have hxl : r.list.getD k 0 < 4294967296 := by
              refine getD_lt ?_ (by decide) k
              obtain ⟨q1, q2, q3, q4, q5, q6, q7, q8⟩ := hrl
              intro y hy
              simp only [St.list, List.mem_cons, List.not_mem_nil, or_false] at hy
              rcases hy with rfl | rfl | rfl | rfl | rfl | rfl | rfl | rfl <;> assumption
            generalize r.list.getD k 0 = x at *
            have hix := fun W => index8 ss0 k _ hk8 hsl hx rfl W
            obtain ⟨y0, h0', k0⟩ : ∃ y : Nat, (x : Int) / 16777216 = (y : Int) ∧ Hid (y = x / 16777216 % 256) := ⟨x / 16777216, by omega, Lib.hid (by omega)⟩
            obtain ⟨y1, h1', k1⟩ : ∃ y : Nat, (x : Int) / 65536 % 256 = (y : Int) ∧ Hid (y = x / 65536 % 256) := ⟨_, by omega, Lib.hid rfl⟩
            obtain ⟨y2, h2', k2⟩ : ∃ y : Nat, (x : Int) / 256 % 256 = (y : Int) ∧ Hid (y = x / 256 % 256) := ⟨_, by omega, Lib.hid rfl⟩
            obtain ⟨y3, h3', k3⟩ : ∃ y : Nat, (x : Int) % 256 = (y : Int) ∧ Hid (y = x % 256) := ⟨_, by omega, Lib.hid rfl⟩
            gi_wp2_with (gi_at_builtin; refine wpListIn_append_own _ rfl _ _ 40 rfl W.heap.size 5 i0 (.int .u8 0) 1 1 Tryd.underlying40 hi hz0 hz1 hz2 rfl (by decide) _ _ _ rfl (own.alloc _) ⟨wr.heap.size, 0, none⟩ 4 4 [.int .u8 y0, .int .u8 y1, .int .u8 y2, .int .u8 y3] rfl rfl (Arr.news4 _ _ _) (by simp [Value.oneCell']) (by unfold maxLen; omega) (by omega) (by have := hb.size; simp; omega) ?_; intro v' w9 hown' hgrow _)
            have hle := own_le own
            go_roundw
            case rel =>
              refine ⟨k + 1, by go_num, by omega, ?_, (hb.alloc hb.size _).grown hgrow (by have := hb.size; simp; omega) hle⟩
              rw [hstep.out]
              have e4 : word4 x = [y0, y1, y2, y3] := by rw [k0.out, k1.out, k2.out, k3.out]; rfl
              rw [e4, show 4 * (k + 1) = 4 * k + 4 by omega]
              simpa [u8s] using hown'
            case measure => simp [intOf]; omega
          · have e8 : k = 8 := by omega
            have own8 : wr.ownsRow W.heap.size 5 1 u8 (4 * k) (u8s (r.list.flatMap word4)) := by
              have := own
              rw [e8, List.take_of_length_le (by simp [St.list])] at this
              rw [e8]; exact this
            have hcv := strOf_u8s (by rw [e8]; simp [St.list, word4]) own8
            have hDw := (hb.block D (Array.getElem?_eq_some_iff.1 hDd).1).trans hDd
            gi_wp2
            refine ⟨by simp, .inl ⟨_, _, rfl, run_takeDeferred hDw, ?_⟩⟩
            refine ⟨.string (strNs (r.list.flatMap word4)), ?_, ?_, ?_⟩
            · simp [results, Tryd.results43, go_sem, strNs]
            · rw [shaS, hfin.out]
            · rw [hSn]; exact (hB.trans (hb.mono (by have := hB.size; omega))).trans (below_put (l := D) _ (by omega))
end Go.Proofs.YtfgojhhphknjkaaDoor
