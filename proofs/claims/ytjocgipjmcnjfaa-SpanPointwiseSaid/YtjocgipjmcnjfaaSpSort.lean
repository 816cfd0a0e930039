/- A copy; the spans in order. -/
import Derived.Test.YtjocgipjmcnjfaaSpShelf
namespace Go.Proofs.Ytjocgipjmcnjfaa
open Go.RowKit Go.Shelf Go.Sort

theorem spv_idx {l : List (Int × Int)} {j : Nat} {u : Value} (h : (spv l)[j]? = some u) : j / 2 < l.length ∧ ((j % 2 = 0 ∧ u = iv (l.getD (j / 2) (0, 0)).1) ∨ (j % 2 = 1 ∧ u = iv (l.getD (j / 2) (0, 0)).2)) := by
  have hl : j < (spv l).length := (List.getElem?_eq_some_iff.1 h).1
  rw [spv_len] at hl
  have hj : j / 2 < l.length := by omega
  obtain ⟨s0, s1⟩ := spv_get hj
  rcases (by omega : j % 2 = 0 ∨ j % 2 = 1) with e | e
  · rw [show j / 2 * 2 = j by omega, h] at s0
    exact ⟨hj, .inl ⟨e, by simpa using s0⟩⟩
  · rw [show j / 2 * 2 + 1 = j by omega, h] at s1
    exact ⟨hj, .inr ⟨e, by simpa using s1⟩⟩

theorem run_append_emptyS (W : World) (ty : TypeId) (g : Nat) (p : Option Addr) (c : Nat) :
    (Builtin.append_ #[22, 22] ty #[.slice (some ⟨g, 0, none⟩) 0 0, .slice p 0 c]).run Try.prog W = .ok (.slice (some ⟨g, 0, none⟩) 0 0) W := by
  obtain ⟨i0, hi0, hz0, hz1, hz2⟩ := info_parts infoS
  cases p <;> simp [Builtin.append_, run_underlying Try.underlying22, sizeOf, typeInfo, hi0, Builtin.lenOf, Builtin.firstCells, storeCells, loadCells, loadCellsFrom]
theorem wpList_append_emptyS {ops : Array Oper} {rest : List Oper} {o : Oper} {a : Act} {W : World} {Q : Exit → Act → World → Prop} (hgd : o.guard = none) (s x : Operand)
    (ho : o.op = .call { callee := .builtin .append, args := #[s, x], argTypes := #[22, 22] }) (g : Nat) (p : Option Addr) (c : Nat) (hs : a.eval s = .slice (some ⟨g, 0, none⟩) 0 0) (hx : a.eval x = .slice p 0 c)
    (h : wpList Try.prog ops Q rest (a.put o.dst (.slice (some ⟨g, 0, none⟩) 0 0)) W) : wpList Try.prog ops Q (o :: rest) a W :=
  wpList_plain hgd fun _ hK => by
    have hr := run_append_emptyS W o.type g p c
    unfold Oper.wp execOp
    simp only [ho, resolve, invoke, builtin, Sem.run_bind, Sem.run_pure, Result.andThen_ok, List.map_toArray, List.map_cons, List.map_nil, hs, hx, hr]
    exact hK _ _ h

set_option maxHeartbeats 1000000 in
theorem clone_any (p : Option Addr) (cap : Nat) (l : List (Int × Int)) (w : World) (hS : ShAt w w.heap.size p l) (hlen : l.length ≤ 100000) :
    Calls Try.prog 37 #[.slice p l.length cap] w (Own w l) := by
  obtain ⟨i0, hi, hz0, hz1, hz2⟩ := info_parts infoS
  have main : ∀ b o, p = some ⟨b, o, none⟩ → Calls Try.prog 37 #[.slice p l.length cap] w (Own w l) := by
    rintro b o rfl
    have hcon := AnyE.slices_Clone cloneSp i0 (.agg #[.int .i64 0, .int .i64 0]) 2 16 hi hz0 hz1 hz2 rfl (by decide) Try.sizeOf30 b o l.length cap (spv l) w (spv_len l) (by unfold maxLen; omega) (by omega)
      (fun j u hj => by
        obtain ⟨hj2, hu⟩ := spv_idx hj
        obtain ⟨b', o', hp, hb, q0, q1⟩ := hS _ hj2
        simp only [Option.some.injEq, Addr.mk.injEq] at hp
        obtain ⟨rfl, rfl, -⟩ := hp
        rcases hu with ⟨e, rfl⟩ | ⟨e, rfl⟩
        · rw [← q0]; congr 2; omega
        · rw [← q1]; congr 2; omega) (spv_one l)
    change Calls Try.prog 37 _ _ _ at hcon
    exact hcon.mono fun e w' ⟨v, h1, h2, _, h4⟩ => ⟨v, h1, h2, h4⟩
  rcases l with _ | ⟨x, l⟩
  · rcases p with _ | a
    · have hcon := AnyE.slices_Clone_nil cloneSp 0 cap w
      change Calls Try.prog 37 _ _ _ at hcon
      exact hcon.mono fun e w' ⟨h1, h2⟩ => ⟨_, h1, by rw [h2]; exact World.ownsRow_nil _ _ _ _, by rw [h2]; exact Below.refl _ _⟩
    · have hB : Below w.heap.size w (w.alloc (.cells #[] 30)) := (Below.refl _ _).alloc (Nat.le_refl _) _
      have hO : (w.alloc (.cells #[] 30)).ownsRow w.heap.size 30 2 (.slice (some ⟨w.heap.size, 0, none⟩) 0 0) 0 [] :=
        ⟨rfl, .inr ⟨w.heap.size, 0, #[], rfl, Nat.le_refl _, heap_alloc_new _ _, Nat.le_refl _, Nat.zero_le _, rfl, rfl⟩⟩
      clear main hS
      have q22 : ∀ (w : World) (a : Option Addr) (n c n' c' : Nat), (binOp .eql 22 (.slice a n c) (.slice none n' c')).run Try.prog w = .ok (.bool a.isNone) w := fun w a n c n' c' => Lib.run_eql_slice_nil w _ _ a n c n' c' Try.underlying22
      go_enter Try.func37, Try.ntmps37
      go_wp2_with (at_builtin; refine wpList_append_emptyS rfl _ _ rfl w.heap.size (some a) cap rfl rfl ?_)
      go_ret
      exact ⟨_, rfl, hO, hB⟩
  · obtain ⟨b, o, hp, -⟩ := hS 0 (by simp)
    exact main b o hp

def encP (x : Int × Int) : List Value := [iv x.1, iv x.2]
theorem ltP (x y : Int × Int) : ltOf (fun x y : Int × Int => cmpZ x.1 y.1) x y = decide (x.1 < y.1) := by
  unfold ltOf cmpZ
  by_cases h1 : x.1 < y.1
  · simp [h1]
  · by_cases h2 : y.1 < x.1 <;> simp [h1, h2]
theorem swoP : SWO (ltOf fun x y : Int × Int => cmpZ x.1 y.1) where
  irrefl x := by rw [ltP]; simp
  trans x y z h1 h2 := by rw [ltP] at *; simp at *; omega
  ntrans x y z h1 h2 := by rw [ltP] at *; simp at *; omega
theorem closureP (x y : Int × Int) (W : World) : Calls Try.prog 40 #[.agg #[.int .i64 x.1, .int .i64 x.2], .agg #[.int .i64 y.1, .int .i64 y.2]] W fun e w' => e = .returned (.int .i64 (cmpZ x.1 y.1)) ∧ ∃ q os', w' = grow (W.drewN q) os' := by
  have hcon := fun W' => cmp_any x.1 y.1 W'
  generalize cmpZ x.1 y.1 = r at hcon ⊢
  go_enter Try.func40, Try.ntmps40
  go_wp2_with (go_at_call 41; refine (hcon _).mono ?_; rintro e w' ⟨rfl, rfl⟩)
  go_ret
  exact ⟨rfl, 0, _, by rw [alloc_eq_grow, alloc_eq_grow, grow_grow]; rfl⟩


theorem flat_spv (l : List (Int × Int)) : (flatK encP 2 l.toArray).toList = spv l := by
  apply List.ext_getElem?
  intro j
  by_cases hj : j < l.length * 2
  · have h1 : j < (flatK encP 2 l.toArray).size := by simpa using hj
    have h2 := get_flatK encP 2 l.toArray j (by simpa using hj)
    rw [Array.getElem?_toList, Array.getElem?_eq_getElem h1]
    rw [getElem!_pos _ j h1] at h2
    rw [h2]
    have hj2 : j / 2 < l.length := by omega
    obtain ⟨s0, s1⟩ := spv_get hj2
    have e : l.toArray[j / 2]! = l.getD (j / 2) (0, 0) := by
      rw [getElem!_pos _ _ (by simpa using hj2), getD_at hj2]; rfl
    rw [e]
    rcases (by omega : j % 2 = 0 ∨ j % 2 = 1) with h | h
    · rw [show j / 2 * 2 = j by omega] at s0
      rw [h, s0]; rfl
    · rw [show j / 2 * 2 + 1 = j by omega] at s1
      rw [h, s1]; rfl
  · rw [List.getElem?_eq_none (by simp; omega), List.getElem?_eq_none (by rw [spv_len]; omega)]

theorem sorted_list {l : List (Int × Int)} {d : Array (Int × Int)} (hp : PermIn 0 l.toArray.size l.toArray d) (hs : SortedIn (ltOf fun x y : Int × Int => cmpZ x.1 y.1) 0 l.toArray.size d) :
    d.toList.Perm l ∧ d.toList.Pairwise fun s t => s.1 ≤ t.1 := by
  obtain ⟨h1, -, h3⟩ := hp
  simp only [List.size_toArray] at h1 h3 hs
  constructor
  · rw [show d.extract 0 l.length = d by rw [← h1]; simp, show l.toArray.extract 0 l.length = l.toArray by rw [show l.length = l.toArray.size by simp]; exact Array.extract_size] at h3
    simpa using h3
  · rw [List.pairwise_iff_getElem]
    intro i j hi hj hij
    have hi' : i < d.size := by simpa using hi
    have hj' : j < d.size := by simpa using hj
    have := hs i j (Nat.zero_le _) hij (by omega)
    rw [ltP, getElem!_pos d i hi', getElem!_pos d j hj'] at this
    simp at this
    simpa using this

theorem heap_sortK {w : World} {g n : Nat} {os : Array Obj} {cur : Array Value} {e : TypeId} {fr : Nat × Nat} (d : Array (Int × Int)) (hb : w.heap[g]? = some (.cells cur e fr)) :
    (sortWorldK encP 2 w g 0 n d os).heap[g]? = some (.cells (putCells id 0 (flatK encP 2 d) cur) e fr) := by
  have hg : g < w.heap.size := (Array.getElem?_eq_some_iff.1 hb).1
  unfold sortWorldK putRowK
  rw [heap_grow_old _ _ (by simpa using hg)]
  simp [putRow, mapBlock, Sort.ahead, Array.getElem?_modify, hb, onCells]
theorem turns_sortK {w : World} {g n : Nat} {os : Array Obj} (d : Array (Int × Int)) : Turns (fun k => g = k) w (sortWorldK encP 2 w g 0 n d os) := by
  refine ⟨rfl, rfl, rfl, by simp [sortWorldK, putRowK], fun k hk hne => ?_⟩
  unfold sortWorldK putRowK
  rw [heap_grow_old _ _ (by simpa using hk)]
  simp [putRow, mapBlock, Sort.ahead, Array.getElem?_modify, hne]
theorem take_putK (cur : Array Value) (l : List (Int × Int)) (h : l.length * 2 ≤ cur.size) : (putCells id 0 (flatK encP 2 l.toArray) cur).toList.take (l.length * 2) = spv l := by
  rw [← flat_spv]
  apply List.ext_getElem?
  intro j
  by_cases hj : j < l.length * 2
  · rw [List.getElem?_take_of_lt hj, Array.getElem?_toList, Array.getElem?_toList]
    simp [putCells, hj, show j < cur.size by omega]
  · rw [List.getElem?_take_eq_none (by omega), List.getElem?_eq_none (by simp; omega)]

set_option maxHeartbeats 1000000 in
theorem sort_any (N : Nat) (v : Value) (l : List (Int × Int)) (w : World) (h : w.ownsRow N 30 2 v l.length (spv l)) (hlen : l.length ≤ 100000) :
    Calls Try.prog 39 #[v, .func (.func 40) #[] #[]] w fun e w' => (∃ vv, e = .returned vv) ∧ ∃ l' : List (Int × Int), l'.Perm l ∧ l'.Pairwise (fun s t => s.1 ≤ t.1) ∧ w'.ownsRow N 30 2 v l'.length (spv l') ∧ Turns (fun k => v.ownBlock = some k) w w' := by
  rcases h.2 with ⟨rfl, h0⟩ | ⟨g, cap, cur, rfl, hb, hg, hnc, hcm, hcs, ht⟩
  · have hcon := AnyF.slices_SortFunc_none sortSp none 0 (.func (.func 40) #[] #[]) w
    change Calls Try.prog 39 _ _ _ at hcon
    have hl : l = [] := List.eq_nil_of_length_eq_zero h0
    subst hl
    exact hcon.mono fun e w' ⟨h1, h2⟩ => ⟨⟨_, h1⟩, [], List.Perm.refl _, List.Pairwise.nil, by rw [h2]; exact h, by rw [h2]; exact Turns.refl _ _⟩
  · have eg : ∀ args w, (callFunc 40 args).run Try.prog w = .ok (.enter 40 args) w := enters_of Try.func40 (by kernel_rfl) rfl
    have hH : HoldsK encP 2 w g 0 l.toArray := by
      intro j hj
      have hj' : j < l.length * 2 := by simpa using hj
      have hj1 : j < (flatK encP 2 l.toArray).size := hj
      rw [Nat.zero_add]
      refine ⟨?_, h.frozenAt j⟩
      rw [h.cellAt j hj', ← flat_spv, Array.getElem?_toList, Array.getElem?_eq_getElem hj1, getElem!_pos _ j hj1]
      rfl
    have hcon := AnyQ.slices_SortFunc sortSp 2 Try.isAgg30 Try.sizeOf30 encP (fun _ => rfl) (fun x v hv => by simp [encP] at hv; rcases hv with rfl | rfl <;> rfl) (fun x y => cmpZ x.1 y.1) swoP 40 #[] g 0 cap l.toArray w eg
      (fun _ _ _ _ x y => closureP x y _) hH (Array.getElem?_eq_some_iff.1 hg).1 (by simp; omega)
    change Calls Try.prog 39 _ _ _ at hcon
    rw [show l.toArray.size = l.length by simp] at hcon
    refine hcon.mono fun e w' hw => ?_
    obtain ⟨rfl, d, n, os, hp, hs, rfl⟩ := hw
    obtain ⟨p1, p2⟩ := sorted_list (by simpa using hp) (by simpa using hs)
    have hdl : d.toList.length = l.length := p1.length_eq
    refine ⟨⟨_, rfl⟩, d.toList, p1, p2, ⟨by rw [spv_len], .inr ⟨g, cap, _, by rw [hdl], hb, heap_sortK d hg, by omega, hcm, by simpa [putCells] using hcs, ?_⟩⟩, ?_⟩
    · have := take_putK cur d.toList (by omega)
      simpa using this
    · exact (turns_sortK d).mono fun k hk => by rw [hk]; rfl
end Go.Proofs.Ytjocgipjmcnjfaa
