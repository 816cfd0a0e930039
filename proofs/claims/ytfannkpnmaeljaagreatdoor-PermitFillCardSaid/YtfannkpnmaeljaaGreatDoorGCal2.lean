import Derived.Test.YtfannkpnmaeljaaGreatDoorGCal1
import Derived.ArgAppend
import Derived.Deep.RegionHeld3
import Derived.Sort.QuietIn
set_option linter.unusedVariables false
set_option linter.unusedSimpArgs false
/- offset, Local. -/
namespace Go.Proofs.YtfannkpnmaeljaaGreatDoor.Cal
open Go.RowKit Go.Shelf
attribute [local go_sem] Oper.semAt_some

def OffI (T : List Str) (s V : Int) (B : Nat) (pre : List Str) (W : World) : Prop := ∃ rest o, T = pre ++ rest ∧ offRun s o rest = V ∧ Arr W B 3 [iv o]

end Go.Proofs.YtfannkpnmaeljaaGreatDoor.Cal

/- Local. -/
namespace Go.Proofs.YtfannkpnmaeljaaGreatDoor.Cal
open Go.RowKit

theorem boxZ' (w : World) (off : Int) (v : Value) : ∃ W0, w.alloc (.cells #[.int .i64 off, v] 26) = W0 ∧ Below w.heap.size w W0 ∧ W0.heap.size = w.heap.size + 1 ∧ Arr W0 w.heap.size 26 [iv off, v] := boxZ w off v

end Go.Proofs.YtfannkpnmaeljaaGreatDoor.Cal

/- Length. -/
namespace Go.Proofs.YtfannkpnmaeljaaGreatDoor.Cal
open Go.RowKit Go.Shelf
attribute [local go_sem] Oper.semAt_some

def LenI (T : List Str) (d V : Int) (B : Nat) (pre : List Str) (W : World) : Prop := ∃ rest t, T = pre ++ rest ∧ lenRun d t rest = V ∧ 0 ≤ t ∧ t ≤ 86400 * pre.length ∧ Arr W B 3 [iv t]

end Go.Proofs.YtfannkpnmaeljaaGreatDoor.Cal

/- Append to a row of the call's own: the block behind it is the old one or a new one. -/
namespace Go.Proofs.YtfannkpnmaeljaaGreatDoor.Cal
open Go.RowKit

theorem own_le {W : World} {base : Nat} {e : TypeId} {size : Nat} {v : Value} {k : Nat} {xs : List Value} (h : W.ownsRow base e size v k xs) : ∀ j, v.ownBlock = some j → base ≤ j := by
  intro j hj
  rcases h.2 with ⟨rfl, _⟩ | ⟨g, cap, cur, rfl, hb, _⟩
  · cases hj
  · cases hj; exact hb

theorem run_append_mine {P : Program} (w : World) (base : Nat) (t ty e : TypeId) (i : TypeInfo) (z : Value) (size bytes : Nat) (ht : P.underlying t = some (.slice e)) (hi : P.info? e = some i) (hz : i.zero = some z)
    (hsize : i.size = size) (hby : i.bytes = bytes) (hzs : z.cells.size = size) (hsz : 0 < size)
    (v : Value) (n : Nat) (xs : List Value) (hown : w.ownsRow base e size v n xs)
    (a : Addr) (m c : Nat) (news : List Value) (hl : news.length = m * size) (hnews : ∀ j u, news[j]? = some u → w.cell? (a.add j) = some u) (h1 : ∀ u ∈ news, u.oneCell' = true)
    (h63 : n + m ≤ maxLen) (hbytes : (n + m) * bytes ≤ 140737488355328) (hbase : base ≤ w.heap.size) :
    ∃ v' w', (Builtin.append_ #[t, t] ty #[v, .slice (some a) m c]).run P w = .ok v' w' ∧ w'.ownsRow base e size v' (n + m) (xs ++ news) ∧ w.grownBy w' v.ownBlock ∧
      (v' = .slice none 0 0 ↔ v = .slice none 0 0 ∧ m = 0) ∧ ∀ j, v'.ownBlock = some j → v.ownBlock = some j ∨ w.heap.size ≤ j := by
  obtain ⟨v', w', hr, r1, r2, r3⟩ := run_append_own (P := P) w base t ty e i z size bytes ht hi hz hsize hby hzs hsz v n xs hown a m c news hl hnews h1 h63 hbytes hbase
  refine ⟨v', w', hr, r1, r2, r3, ?_⟩
  rcases hown.2 with ⟨rfl, rfl⟩ | ⟨g, cap, cur, rfl, hbg, hg, hnc, hcm, hcs, htake⟩
  · have hx : xs = [] := List.eq_nil_of_length_eq_zero (by simpa using hown.1)
    subst hx
    obtain ⟨v2, w2, hr2, q1, q2, q3⟩ := run_append_own (P := P) w w.heap.size t ty e i z size bytes ht hi hz hsize hby hzs hsz (.slice none 0 0) 0 [] (World.ownsRow_nil w _ e size) a m c news hl hnews h1 h63 hbytes (Nat.le_refl _)
    rw [hr] at hr2
    simp only [Result.ok.injEq] at hr2
    obtain ⟨rfl, rfl⟩ := hr2
    exact fun j hj => .inr (own_le q1 j hj)
  · by_cases hroom : n + m ≤ cap
    · subst hsize
      have hfit : n * i.size + news.length ≤ cur.size := by rw [hl, hcs, ← Nat.add_mul]; exact Nat.mul_le_mul_right _ hroom
      have hr2 := run_append_room (P := P) w t ty e i ht hi g n cap cur hg a m c news hl hnews h1 hroom hfit
      rw [hr] at hr2
      simp only [Result.ok.injEq] at hr2
      obtain ⟨rfl, rfl⟩ := hr2
      exact fun j hj => .inl hj
    · have holds : ∀ j u, xs[j]? = some u → w.cell? ((⟨g, 0, none⟩ : Addr).add j) = some u := hown.cells (g := g) rfl
      obtain ⟨v2, w2, hr2, q1, q2⟩ := run_append_arg_grows (P := P) w t ty e i z size bytes ht hi hz hsize hby hzs hsz ⟨g, 0, none⟩ n cap xs hown.1 holds a m c news hl hnews (by omega) h63 hbytes
      rw [hr] at hr2
      simp only [Result.ok.injEq] at hr2
      obtain ⟨rfl, rfl⟩ := hr2
      exact fun j hj => .inr (own_le q1 j hj)

theorem wpListIn_append_mine {F : Fence} {n : Nat} {P : Program} (w : World) {ops : Array Oper} {rest : List Oper} {o : Oper} {a : Act} {Q : Exit → Act → World → Prop}
    (hg : o.guard = none) (s x : Operand) (t : TypeId) (hop : o.op = Op.call { callee := Callee.builtin Builtin.append, args := #[s, x], argTypes := #[t, t] })
    (base : Nat) (e : TypeId) (i : TypeInfo) (z : Value) (size bytes : Nat) (h1 : P.underlying t = some (.slice e)) (h2 : P.info? e = some i) (h3 : i.zero = some z) (h4 : i.size = size) (h5 : i.bytes = bytes) (h6 : z.cells.size = size) (h7 : 0 < size)
    (v : Value) (k : Nat) (xs : List Value) (hs : a.eval s = v) (hown : w.ownsRow base e size v k xs) (ad : Addr) (m c : Nat) (news : List Value) (hx : a.eval x = .slice (some ad) m c) (hn : news.length = m * size)
    (hc : ∀ j u, news[j]? = some u → w.cell? (ad.add j) = some u) (h1c : ∀ u ∈ news, u.oneCell' = true) (b1 : k + m ≤ maxLen) (b2 : (k + m) * bytes ≤ 140737488355328) (b3 : base ≤ w.heap.size)
    (hK : ∀ v' w', w'.ownsRow base e size v' (k + m) (xs ++ news) → w.grownBy w' v.ownBlock → (v' = .slice none 0 0 ↔ v = .slice none 0 0 ∧ m = 0) → (∀ j, v'.ownBlock = some j → v.ownBlock = some j ∨ w.heap.size ≤ j) → wpListIn F n P ops Q rest (a.put o.dst v') w') :
    wpListIn F n P ops Q (o :: rest) a w := by
  refine wpListIn_plain hg fun K hK' => ?_
  obtain ⟨v', w', hrun, r1, r2, r3, r4⟩ := run_append_mine (P := P) w base t o.type e i z size bytes h1 h2 h3 h4 h5 h6 h7 v k xs hown ad m c news hn hc h1c b1 b2 b3
  unfold Oper.wpIn
  refine ⟨?_, ?_⟩
  · simp [Oper.about, hop, resolve, Target.leads, Sem.run_pure]
  · rw [Oper.semAt_plain F _ _ (by rw [hop]; intro c hc'; cases hc')]
    simp [execOp, hop, resolve, invoke, builtin, hs, hx, hrun, Result.andThen]
    exact hK' _ _ (hK v' w' r1 r2 r3 r4)

theorem wpList_append_mine {P : Program} (w : World) {ops : Array Oper} {rest : List Oper} {o : Oper} {a : Act} {Q : Exit → Act → World → Prop}
    (hg : o.guard = none) (s x : Operand) (t : TypeId) (hop : o.op = Op.call { callee := Callee.builtin Builtin.append, args := #[s, x], argTypes := #[t, t] })
    (base : Nat) (e : TypeId) (i : TypeInfo) (z : Value) (size bytes : Nat) (h1 : P.underlying t = some (.slice e)) (h2 : P.info? e = some i) (h3 : i.zero = some z) (h4 : i.size = size) (h5 : i.bytes = bytes) (h6 : z.cells.size = size) (h7 : 0 < size)
    (v : Value) (k : Nat) (xs : List Value) (hs : a.eval s = v) (hown : w.ownsRow base e size v k xs) (ad : Addr) (m c : Nat) (news : List Value) (hx : a.eval x = .slice (some ad) m c) (hn : news.length = m * size)
    (hc : ∀ j u, news[j]? = some u → w.cell? (ad.add j) = some u) (h1c : ∀ u ∈ news, u.oneCell' = true) (b1 : k + m ≤ maxLen) (b2 : (k + m) * bytes ≤ 140737488355328) (b3 : base ≤ w.heap.size)
    (hK : ∀ v' w', w'.ownsRow base e size v' (k + m) (xs ++ news) → w.grownBy w' v.ownBlock → (v' = .slice none 0 0 ↔ v = .slice none 0 0 ∧ m = 0) → (∀ j, v'.ownBlock = some j → v.ownBlock = some j ∨ w.heap.size ≤ j) → wpList P ops Q rest (a.put o.dst v') w') :
    wpList P ops Q (o :: rest) a w := by
  refine wpList_plain hg fun K hK' => ?_
  obtain ⟨v', w', hrun, r1, r2, r3, r4⟩ := run_append_mine (P := P) w base t o.type e i z size bytes h1 h2 h3 h4 h5 h6 h7 v k xs hown ad m c news hn hc h1c b1 b2 b3
  unfold Oper.wp
  simp [execOp, hop, resolve, invoke, builtin, hs, hx, hrun, Result.andThen]
  exact hK' _ _ (hK v' w' r1 r2 r3 r4)

/-- What a store of a row that may have grown leaves: the body's blocks. -/
theorem grown_mine {M : Nat → Prop} {W w1 : World} {o : Obj} {v v' : Value} {B : Nat} {u : Value} {n₀ : Nat} {e : TypeId} {size k : Nat} {xs : List Value} (hB : M B) (hBl : ∀ j, M j → j < W.heap.size) (hv : ∀ j, v.ownBlock = some j → M j)
    (hgrow : (W.alloc o).grownBy w1 v.ownBlock) (hown : w1.ownsRow n₀ e size v' k xs) (hnew : ∀ j, v'.ownBlock = some j → v.ownBlock = some j ∨ (W.alloc o).heap.size ≤ j) :
    Grown M (fun j => M j ∨ v'.ownBlock = some j) W (w1.setCell ⟨B, 0, none⟩ u) := by
  have hz := hgrow.size
  simp at hz
  refine ⟨fun j h => .inl h, fun j h => ?_, fun j h => ?_, ⟨hgrow.os, hgrow.tape, hgrow.output, by simp; omega, fun j hj hn => ?_⟩⟩
  · rcases h with h | h
    · exact .inl h
    · rcases hnew j h with h | h
      · exact .inl (hv j h)
      · simp at h; exact .inr (by omega)
  · rcases h with h | h
    · have := hBl j h; simp; omega
    · have := (hown.lt j h).2; simpa using this
  · rw [not_or] at hn
    rw [Below.heap_setCell _ _ _ _ (by intro e; subst e; exact hn.1 hB), hgrow.block j (by simp; omega) (fun e => hn.1 (hv j e.symm))]
    exact Below.heap_alloc _ _ _ hj
end Go.Proofs.YtfannkpnmaeljaaGreatDoor.Cal

/- At. -/
namespace Go.Proofs.YtfannkpnmaeljaaGreatDoor.Cal
open Go.RowKit Go.Shelf
attribute [local go_sem] Oper.semAt_some

theorem infoI : (Tryz.prog.info? 3).map (fun i => (i.zero, i.size, i.bytes)) = some (some (.int .i64 0), 1, 8) := by kernel_rfl
def ivs (l : List Int) : List Value := l.map fun x => iv x
def AtI (T : List Str) (u : Int) (V : List Int) (B N : Nat) (pre : List Str) (M : Nat → Prop) (W : World) : Prop :=
  ∃ rest f v, T = pre ++ rest ∧ atRun u f rest = V ∧ f.length ≤ pre.length ∧ Arr W B 38 [v] ∧ W.ownsRow N 3 1 v f.length (ivs f) ∧ (∀ j, v.ownBlock = some j → M j) ∧ M B ∧ ∀ j, M j → B ≤ j
/-- A slice of its own that holds these integers. -/
def IntsOut (w : World) (l : List Int) (e : Ending) (w' : World) : Prop := ∃ v, e = .returned v ∧ w'.ownsRow w.heap.size 3 1 v l.length (ivs l) ∧ Below w.heap.size w w'

end Go.Proofs.YtfannkpnmaeljaaGreatDoor.Cal

/- Length and At for every argument; windows. -/
namespace Go.Proofs.YtfannkpnmaeljaaGreatDoor.Cal
open Go.RowKit

theorem okDay_iff {d : Int} : okDay d = true ↔ -1 ≤ d ∧ d ≤ 115741 := by simp [okDay]
theorem okDay_no {d : Int} (h : okDay d = false) : d < -1 ∨ 115741 < d := by
  by_cases h1 : d < -1
  · exact .inl h1
  · by_cases h2 : 115741 < d
    · exact .inr h2
    · rw [okDay_iff.2 ⟨by omega, by omega⟩] at h; cases h

end Go.Proofs.YtfannkpnmaeljaaGreatDoor.Cal

/- Windows. -/
namespace Go.Proofs.YtfannkpnmaeljaaGreatDoor.Cal
open Go.RowKit

/-- The length of the window from a to b. -/
def winZ (a b : Int) : Int := if (b - a) % 86400 = 0 then 86400 else (b - a) % 86400
theorem winZ_pos (a b : Int) : 1 ≤ winZ a b ∧ winZ a b ≤ 86400 := by unfold winZ; split <;> omega

set_option maxHeartbeats 2000000 in
theorem mkwin_yes (a b : Int) (w : World) (ha : okSod a = true) (hb : okSod b = true) :
    Calls Tryz.prog 105 #[.int .i64 a, .int .i64 b] w fun e w' => e = .returned (.tuple #[.agg #[iv a, iv (winZ a b)], .bool true]) ∧ Below w.heap.size w w' := by
  obtain ⟨a0, a1⟩ := okSod_iff.1 ha
  obtain ⟨b0, b1⟩ := okSod_iff.1 hb
  obtain ⟨r, hr⟩ : ∃ r, (b - a) % 86400 = r := ⟨_, rfl⟩
  have hw : winZ a b = if r = 0 then 86400 else r := by unfold winZ; rw [hr]
  have hre : ∀ W, Calls Tryz.prog 128 #[.int .i64 (b - a)] W fun e w' => e = .returned (.int .i64 r) ∧ W = w' := fun W => hr ▸ rest_any _ W
  rw [hw]
  clear hr hw
  by_cases h0 : r = 0
  · rw [if_pos h0]
    subst h0
    go_enter Tryz.func105, Tryz.ntmps105
    go_wp2_with (first | (go_at_call 127; refine Calls.mono (isSod_any _ _) ?_; rintro e w' ⟨rfl, rfl⟩) | (go_at_call 128; refine Calls.mono (hre _) ?_; rintro e w' ⟨rfl, rfl⟩))
    exact bodyPost_ret (v := .tuple #[.agg #[iv a, iv 86400], .bool true]) (by simp [results, Tryz.results105, go_sem, (Arr.new w 124 [iv a, iv 86400]).cell (i := 0) rfl, (Arr.new w 124 [iv a, iv 86400]).cell (i := 1) rfl]) rfl ⟨rfl, (Below.refl _ _).alloc (Nat.le_refl _) _⟩
  · rw [if_neg h0]
    have h0' : (r == 0) = false := by simpa using h0
    go_enter Tryz.func105, Tryz.ntmps105
    go_wp2_with (first | (go_at_call 127; refine Calls.mono (isSod_any _ _) ?_; rintro e w' ⟨rfl, rfl⟩) | (go_at_call 128; refine Calls.mono (hre _) ?_; rintro e w' ⟨rfl, rfl⟩))
    exact bodyPost_ret (v := .tuple #[.agg #[iv a, iv r], .bool true]) (by simp [results, Tryz.results105, go_sem, (Arr.new w 124 [iv a, iv r]).cell (i := 0) rfl, (Arr.new w 124 [iv a, iv r]).cell (i := 1) rfl]) rfl ⟨rfl, (Below.refl _ _).alloc (Nat.le_refl _) _⟩

set_option maxHeartbeats 2000000 in
theorem mkwin_no (a b : Int) (w : World) (h : (okSod a && okSod b) = false) :
    Calls Tryz.prog 105 #[.int .i64 a, .int .i64 b] w fun e w' => e = .returned (.tuple #[.agg #[iv 0, iv 0], .bool false]) ∧ Below w.heap.size w w' := by
  by_cases ha : okSod a = true
  · rw [ha, Bool.true_and] at h
    go_enter Tryz.func105, Tryz.ntmps105
    go_wp2_with (go_at_call 127; refine Calls.mono (isSod_any _ _) ?_; rintro e w' ⟨rfl, rfl⟩)
    exact bodyPost_ret (v := .tuple #[.agg #[iv 0, iv 0], .bool false]) (by simp [results, Tryz.results105, go_sem, (Arr.new w 124 [iv 0, iv 0]).cell (i := 0) rfl, (Arr.new w 124 [iv 0, iv 0]).cell (i := 1) rfl]) rfl ⟨rfl, (Below.refl _ _).alloc (Nat.le_refl _) _⟩
  · rw [Bool.not_eq_true] at ha
    clear h
    go_enter Tryz.func105, Tryz.ntmps105
    go_wp2_with (go_at_call 127; refine Calls.mono (isSod_any _ _) ?_; rintro e w' ⟨rfl, rfl⟩)
    exact bodyPost_ret (v := .tuple #[.agg #[iv 0, iv 0], .bool false]) (by simp [results, Tryz.results105, go_sem, (Arr.new w 124 [iv 0, iv 0]).cell (i := 0) rfl, (Arr.new w 124 [iv 0, iv 0]).cell (i := 1) rfl]) rfl ⟨rfl, (Below.refl _ _).alloc (Nat.le_refl _) _⟩

set_option maxHeartbeats 2000000 in
theorem elapsed_any (b l x : Int) (w : World) (hb0 : 0 ≤ b) (hb1 : b < 86400) (hx0 : -100000 ≤ x) (hx1 : x ≤ 20000000000) :
    Calls Tryz.prog 109 #[.agg #[iv b, iv l], .int .i64 x] w fun e w' => e = .returned (.int .i64 ((x - b) % 86400)) ∧ Below w.heap.size w w' := by
  go_enter Tryz.func109, Tryz.ntmps109
  go_wp2_with (go_at_call 128; refine Calls.mono (rest_any _ _) ?_; rintro e w' ⟨rfl, rfl⟩)
  go_ret
  exact ⟨rfl, (Below.refl _ _).alloc (Nat.le_refl _) _⟩

def longZ (f t : Int) : Bool := decide (f < t) && decide (1000000 < t - f)
set_option maxHeartbeats 2000000 in
theorem isLong_any (f t : Int) (w : World) (hf0 : -9223372036854775808 ≤ f) (hf1 : f ≤ 9223372036854775807) (ht0 : -9223372036854775808 ≤ t) (ht1 : t ≤ 9223372036854775807) :
    Calls Tryz.prog 106 #[.agg #[iv f, iv t]] w fun e w' => e = .returned (.bool (longZ f t)) ∧ Below w.heap.size w w' := by
  obtain ⟨V, hV⟩ : ∃ V, longZ f t = V := ⟨_, rfl⟩
  rw [hV]
  unfold longZ at hV
  by_cases h : f < t
  · rw [decide_eq_true h, Bool.true_and] at hV
    have e1 : IntKind.u64.wrap (IntKind.u64.wrap t - IntKind.u64.wrap f) = t - f := by rw [IntKind.wrap_u64, IntKind.wrap_u64, IntKind.wrap_u64]; omega
    obtain ⟨x, hx⟩ : ∃ x, IntKind.u64.wrap t = x := ⟨_, rfl⟩
    obtain ⟨y, hy⟩ : ∃ y, IntKind.u64.wrap f = y := ⟨_, rfl⟩
    rw [hx, hy] at e1
    obtain ⟨z, hz⟩ : ∃ z, t - f = z := ⟨_, rfl⟩
    rw [hz] at e1 hV
    clear hz
    go_enter Tryz.func106, Tryz.ntmps106
    go_wp2_with fail
    go_ret
    exact ⟨rfl, (Below.refl _ _).alloc (Nat.le_refl _) _⟩
  · rw [decide_eq_false h, Bool.false_and] at hV
    subst hV
    have h' : decide (f < t) = false := decide_eq_false h
    go_enter Tryz.func106, Tryz.ntmps106
    go_wp2_with fail
    go_ret
    exact ⟨rfl, (Below.refl _ _).alloc (Nat.le_refl _) _⟩

def spansZ (off : Int) (sh : List (Int × Int)) (F To a b : Int) : List (Int × Int) :=
  if okSod a && okSod b && validZ off sh && !longZ F To then spanRun F To a (winZ a b) [] (strs 0 off sh) else []
end Go.Proofs.YtfannkpnmaeljaaGreatDoor.Cal

/- Within. -/
namespace Go.Proofs.YtfannkpnmaeljaaGreatDoor.Cal
open Go.RowKit

def withinZ (off : Int) (sh : List (Int × Int)) (s a b : Int) : Bool :=
  okSod a && okSod b && validZ off sh && okSec s && decide (((localZ off sh s).2 - a) % 86400 < winZ a b)

theorem keepW {W W' W'' : World} {B n : Nat} {x y : Int} (hS : W'.cell? ⟨B, 0, none⟩ = some (iv x) ∧ W'.cell? ⟨B, 1, none⟩ = some (iv y) ∧ Below n W W') (hB : B < W.heap.size) (hn : n ≤ W.heap.size) (b : Below W'.heap.size W' W'') :
    W''.cell? ⟨B, 0, none⟩ = some (iv x) ∧ W''.cell? ⟨B, 1, none⟩ = some (iv y) ∧ Below n W W'' := by
  have hs := hS.2.2.size
  exact ⟨(b.cell (p := ⟨B, 0, none⟩) (by simp; omega)).trans hS.1, (b.cell (p := ⟨B, 1, none⟩) (by simp; omega)).trans hS.2.1, hS.2.2.trans (b.mono (by omega))⟩

theorem local_in {off s : Int} {sh : List (Int × Int)} : 0 ≤ (localZ off sh s).2 ∧ (localZ off sh s).2 < 86400 := by
  unfold localZ; split <;> simp <;> omega

end Go.Proofs.YtfannkpnmaeljaaGreatDoor.Cal

/- A span is added to those found. -/
namespace Go.Proofs.YtfannkpnmaeljaaGreatDoor.Cal
open Go.RowKit

def spv (l : List (Int × Int)) : List Value := l.flatMap fun x => [iv x.1, iv x.2]
theorem spv_len (l : List (Int × Int)) : (spv l).length = l.length * 2 := by
  induction l with
  | nil => rfl
  | cons x r ih => simp [spv] at ih ⊢; omega
theorem spv_append (l m : List (Int × Int)) : spv (l ++ m) = spv l ++ spv m := by simp [spv]
theorem spv_get {l : List (Int × Int)} {i : Nat} (h : i < l.length) : (spv l)[i * 2]? = some (iv (l.getD i (0, 0)).1) ∧ (spv l)[i * 2 + 1]? = some (iv (l.getD i (0, 0)).2) := by
  induction l generalizing i with
  | nil => simp at h
  | cons x r ih =>
    cases i with
    | zero => simp [spv]
    | succ i =>
      have := ih (i := i) (by simpa using h)
      simp only [spv, List.flatMap_cons] at this ⊢
      rw [show (i + 1) * 2 = i * 2 + 2 by omega]
      simpa using this

theorem infoS : (Tryz.prog.info? 34).map (fun i => (i.zero, i.size, i.bytes)) = some (some (.agg #[.int .i64 0, .int .i64 0]), 2, 16) := by kernel_rfl

/-- The spans found: the slice lies in the box B. -/
def SpAt (W : World) (B N : Nat) (M : Nat → Prop) (l : List (Int × Int)) : Prop :=
  ∃ v, Arr W B 40 [v] ∧ W.ownsRow N 34 2 v l.length (spv l) ∧ (∀ j, v.ownBlock = some j → M j) ∧ M B ∧ ∀ j, M j → B ≤ j

theorem SpAt.turn {A W : World} {B N n : Nat} {M : Nat → Prop} {l : List (Int × Int)} (h : SpAt A B N M l) (ht : Turns (fun k => n ≤ k ∧ ¬ M k) A W) : SpAt W B N M l := by
  obtain ⟨v, h1, h2, h3, h4, h5⟩ := h
  exact ⟨v, ht.arr h1 (fun h => h.2 h4), ht.row h2 (fun j hj h => h.2 (h3 j hj)), h3, h4, h5⟩

def Added (w : World) (B N : Nat) (M : Nat → Prop) (l : List (Int × Int)) (e : Ending) (w' : World) : Prop :=
  (∃ v, e = .returned v) ∧ ∃ M', Grown M M' w w' ∧ SpAt w' B N M' l

theorem cells_new (w : World) (xs : List Value) (t : TypeId) : ∀ j u, xs[j]? = some u → (w.alloc (.cells xs.toArray t)).cell? ((⟨w.heap.size, 0, none⟩ : Addr).add j) = some u := by
  intro j u hj
  have hadd : (⟨w.heap.size, 0, none⟩ : Addr).add j = ⟨w.heap.size, j, none⟩ := by unfold Addr.add; split <;> simp_all
  rw [hadd]
  exact (Arr.new w t xs).cell hj

theorem added_app {w w1 : World} {B N : Nat} {M : Nat → Prop} {l : List (Int × Int)} {b e : Int} {v : Value} {g cap : Nat} {o : Obj} {u : Value} (h1 : Arr w B 40 [v]) (h2 : w.ownsRow N 34 2 v l.length (spv l)) (h3 : ∀ j, v.ownBlock = some j → M j) (h4 : M B) (h5 : ∀ j, M j → B ≤ j)
    (hMl : ∀ j, M j → j < w.heap.size) (hnr : some B ≠ v.ownBlock) (hgrow : (w.alloc o).grownBy w1 v.ownBlock) (hu : u = .slice (some ⟨g, 0, none⟩) (l.length + 1) cap) (hown : w1.ownsRow N 34 2 u (l.length + 1) (spv l ++ [iv b, iv e])) (hnew : ∀ j, u.ownBlock = some j → v.ownBlock = some j ∨ (w.alloc o).heap.size ≤ j)
    (rv : Value) : Added w B N M (l ++ [(b, e)]) (.returned rv) (w1.setCell ⟨B, 0, none⟩ u) := by
  have hv1 := ((show Boxed w B 40 v from h1).alloc o).kept hgrow hnr
  have hBl := hMl B h4
  refine ⟨⟨_, rfl⟩, _, grown_mine h4 hMl h3 hgrow hown hnew, u, hv1.set u, ?_, fun j hj => .inr hj, .inl h4, fun j hj => ?_⟩
  · rw [List.length_append]
    have := ownsRow_setCell_other hown (a := ⟨B, 0, none⟩) (fun h => hv1.not_row (by decide) hown h.symm) u
    simpa [spv] using this
  · rcases hj with hj | hj
    · exact h5 j hj
    · rcases hnew j hj with h | h
      · exact h5 j (h3 j h)
      · simp at h; omega

set_option maxRecDepth 100000 in
set_option maxHeartbeats 4000000 in
theorem add_any (b e : Int) (B N : Nat) (M : Nat → Prop) (l : List (Int × Int)) (w : World) (hS : SpAt w B N M l) (hMl : ∀ j, M j → j < w.heap.size) (hN : N ≤ w.heap.size) (hl : l.length ≤ 100000) :
    Calls Tryz.prog 107 #[.int .i64 b, .int .i64 e, .pointer (some ⟨B, 0, none⟩)] w (Added w B N M (addZ l b e)) := by
  obtain ⟨v, h1, h2, h3, h4, h5⟩ := hS
  have c0 := h1.cell (i := 0) rfl
  obtain ⟨i0, hi, hz0, hz1, hz2⟩ := info_parts infoS
  have hbx : Boxed w B 40 v := h1
  have hnr := hbx.not_row (by decide) h2
  have f0 := h1.frozen 0
  by_cases hbe : e ≤ b
  · rw [addZ_no hbe]
    have hvl : ∃ p n c, v = .slice p n c := by
      rcases h2.2 with ⟨rfl, _⟩ | ⟨g, cap, cur, rfl, _⟩ <;> exact ⟨_, _, _, rfl⟩
    obtain ⟨p, n, c, rfl⟩ := hvl
    have hP : Added w B N M l (.returned (.tuple #[])) w := ⟨⟨_, rfl⟩, M, ⟨fun k hk => hk, fun k hk => .inl hk, hMl, Turns.refl _ _⟩, _, h1, h2, h3, h4, h5⟩
    clear h2 h3 hnr hbx
    go_enter Tryz.func107, Tryz.ntmps107
    go_wp2
    go_end0
    exact hP
  · rcases List.eq_nil_or_concat l with rfl | ⟨l0, x, rfl⟩
    · rw [addZ_nil hbe]
      have hvl : ∃ p c, v = .slice p 0 c := by
        rcases h2.2 with ⟨rfl, _⟩ | ⟨g, cap, cur, rfl, _⟩ <;> exact ⟨_, _, rfl⟩
      obtain ⟨p, c, rfl⟩ := hvl
      have hlt : b < e := by omega
      go_enter Tryz.func107, Tryz.ntmps107
      go_wp2_with (at_builtin; refine wpList_append_mine _ rfl _ _ 40 rfl N 34 i0 (.agg #[.int .i64 0, .int .i64 0]) 2 16 Tryz.underlying40 hi hz0 hz1 hz2 rfl (by decide) _ _ _ rfl (h2.alloc _) ⟨w.heap.size, 0, none⟩ 1 1 [.int .i64 b, .int .i64 e] rfl rfl (cells_new _ _ _) (by simp [Value.oneCell']) (by unfold maxLen; simp) (by simp) (by simp; omega) ?_; intro v' w2 hown' hgrow _ hnew; obtain ⟨g', cap', hv'⟩ := ownsRow_succ hown'; subst hv'; have hv1 := (hbx.alloc _).kept hgrow hnr; have hc1 := hv1.cell; have hf1 := hv1.frozen)
      have hP := added_app (b := b) (e := e) h1 h2 h3 h4 h5 hMl hnr hgrow rfl hown' hnew (.tuple #[])
      go_end0
      exact hP
    · obtain ⟨xf, xt⟩ := x
      simp only [List.concat_eq_append] at *
      obtain ⟨k, hk⟩ : ∃ k, l0.length = k := ⟨_, rfl⟩
      have hk2 : (l0 ++ [(xf, xt)]).length = k + 1 := by simp [hk]
      have hlt : b < e := by omega
      rw [hk2] at h2 hl
      obtain ⟨g, cap, rfl⟩ := ownsRow_succ h2
      have hsp := spv_get (l := l0 ++ [(xf, xt)]) (i := k) (by omega)
      have hgx : (l0 ++ [(xf, xt)]).getD k (0, 0) = (xf, xt) := by subst hk; simp
      rw [hgx] at hsp
      have hcl := h2.cellAt (k * 2 + 1) (by omega)
      rw [hsp.2] at hcl
      have hfr := h2.frozenAt (k * 2 + 1)
      dsimp only at hcl
      have hBg : B ≠ g := fun h => hnr (by rw [h]; rfl)
      have hMg := h3 g rfl
      have e1 : ((k + 1 : Nat) : Int) - 1 = (k : Int) := by omega
      have i0' : (0 : Int) ≤ (k : Int) := by omega
      by_cases htb : xt = b
      · subst htb
        rw [addZ_join hbe]
        have hst := h2.stored (k * 2 + 1) (.int .i64 e)
        obtain ⟨hst1, hst2⟩ := hst
        clear hbx hnr hi hz0 hz1 hz2 hsp hgx hk2
        have hP : Added w B N M (l0 ++ [(xf, e)]) (.returned (.tuple #[])) (w.setCell ⟨g, k * 2 + 1, none⟩ (.int .i64 e)) := by
          refine ⟨⟨_, rfl⟩, M, ⟨fun j hj => hj, fun j hj => .inl hj, fun j hj => by have := hMl j hj; simpa using this, (Turns.refl M _).of_setCell (p := ⟨g, k * 2 + 1, none⟩) (.inl hMg) _⟩, _, h1.set_other _ _ (Ne.symm hBg), ?_, h3, h4, h5⟩
          have hlen : (l0 ++ [(xf, e)]).length = k + 1 := by simp [hk]
          rw [hlen]
          have hsp2 : (spv (l0 ++ [(xf, xt)])).set (k * 2 + 1) (.int .i64 e) = spv (l0 ++ [(xf, e)]) := by
            rw [spv_append, spv_append, List.set_append, if_neg (by rw [spv_len, hk]; omega), spv_len, hk, show k * 2 + 1 - k * 2 = 1 by omega]
            rfl
          rw [← hsp2]
          exact hst1
        have hP := Lib.hid hP
        clear hst1 hst2 h1 h2 h3 hk
        go_enter Tryz.func107, Tryz.ntmps107
        go_wp2
        go_end0
        exact hP.out
      · rw [addZ_far hbe htb]
        have htb' : (xt == b) = false := by simpa using htb
        clear hsp hgx e1
        have e1 : ((k + 1 : Nat) : Int) - 1 = (k : Int) := by omega
        have h2' : w.ownsRow N 34 2 (.slice (some ⟨g, 0, none⟩) (k + 1) cap) (l0 ++ [(xf, xt)]).length (spv (l0 ++ [(xf, xt)])) := by rw [hk2]; exact h2
        have hk3 := Lib.hid hk2; clear hk2
        have hk := Lib.hid hk; clear hk
        go_enter Tryz.func107, Tryz.ntmps107
        go_wp2_with (at_builtin; refine wpList_append_mine _ rfl _ _ 40 rfl N 34 i0 (.agg #[.int .i64 0, .int .i64 0]) 2 16 Tryz.underlying40 hi hz0 hz1 hz2 rfl (by decide) _ _ _ rfl (h2.alloc _) ⟨w.heap.size, 0, none⟩ 1 1 [.int .i64 b, .int .i64 e] rfl rfl (cells_new _ _ _) (by simp [Value.oneCell']) (by unfold maxLen; omega) (by omega) (by simp; omega) ?_; intro v' w2 hown' hgrow _ hnew; obtain ⟨g', cap', hv'⟩ := ownsRow_succ hown'; subst hv'; have hv1 := (hbx.alloc _).kept hgrow hnr; have hc1 := hv1.cell; have hf1 := hv1.frozen)
        have hk4 := hk3.out
        have hP := added_app (l := l0 ++ [(xf, xt)]) (b := b) (e := e) h1 h2' h3 h4 h5 hMl hnr hgrow (by rw [hk4]) (by rw [hk4]; exact hown') hnew (.tuple #[])
        rw [List.append_assoc] at hP
        go_end0
        exact hP
end Go.Proofs.YtfannkpnmaeljaaGreatDoor.Cal

/- A region that draws its order and only reads, in a round of a range over a function. -/
namespace Go.Proofs.YtfannkpnmaeljaaGreatDoor.Cal
open Go.RowKit

def isDefer : Op → Bool
  | .defer _ => true
  | _ => false
theorem not_defer {o : Op} (h : isDefer o = false) : ∀ c, o ≠ .defer c := fun c e => by rw [e] at h; cases h

variable {F : Fence} {n : Nat} {P : Program} {ops : Array Oper} {md : Region.Mode} {C : World → Prop}

theorem wpIn_of_quietR {o : Oper} {a : Act} {K : Act → Prop} {K' : Act → World → Prop} {Q' : Exit → Act → World → Prop} {w : World} (hnd : isDefer o.op = false) (hw : C w) (h : ∀ a w', C w' → K a → K' a w')
    (ha : o.askedIn F P a C) (hh : o.quietIn F n P a C K) : o.wpIn F n P a w K' Q' := by
  obtain ⟨v, h1, h2⟩ := hh
  have h3 := h1 w hw
  unfold Oper.quietAtIn at h3
  unfold Oper.wpIn
  refine ⟨ha w hw, ?_⟩
  rw [Oper.semAt_eq _ _ _ (not_defer hnd)]
  generalize (execOp a.eval o).run P w = r at *
  cases r with
  | ok x w' =>
    cases x <;> simp only [Oper.quietUponIn] at h3 <;> simp only [Oper.uponIn]
    case value u =>
      obtain ⟨e1, e2⟩ := h3
      rw [e1, e2]
      exact h _ _ hw h2
    case skip =>
      obtain ⟨e1, e2⟩ := h3
      rw [e1, ← e2]
      exact h _ _ hw h2
    case enter f args =>
      obtain ⟨e1, hd, hc⟩ := h3
      rw [e1]
      exact ⟨hd, hc.mono fun e w'' ⟨he, hw''⟩ => by subst he; exact h _ _ hw'' h2⟩
  | halt x w' => simp only [Oper.quietUponIn] at h3

theorem wpOpIn_of_qOpInR {i : Nat} {a : Act} {K : Act → Prop} {K' : Act → World → Prop} {Q' : Exit → Act → World → Prop} {w : World} (hnd : ∀ o ∈ ops.toList, isDefer o.op = false) (hC : C w) (h : ∀ a w', C w' → K a → K' a w')
    (hh : qOpIn F n P ops C i K a) : wpOpIn F n P ops Q' i K' a w := by
  unfold qOpIn at hh
  unfold wpOpIn
  split
  · rename_i ho; simp only [ho] at hh; exact h _ _ hC hh
  · rename_i o ho
    simp only [ho] at hh
    obtain ⟨ha, hh⟩ := hh
    split
    · rename_i hw; simp only [hw, if_true] at hh; exact wpIn_of_quietR (hnd o (by have := Array.mem_of_getElem? ho; simpa using this)) hC h ha hh
    · rename_i hw; simp only [hw] at hh; exact ⟨ha w hC, h _ _ hC hh⟩

theorem wpAnyIn_of_quietR {Q : Act → Prop} {Q' : Exit → Act → World → Prop} (hnd : ∀ o ∈ ops.toList, isDefer o.op = false) (hQ : ∀ a w, C w → Q a → Q' .normal a w) : ∀ (fuel : Nat) (listed : Array Bool) (a : Act) (w : World), C w →
    wpAnyQIn F n P md ops C Q fuel listed a → wpAnyIn F n P md ops Q' fuel listed a w
  | 0, _, _, _, hw, h => ⟨h.1, hQ _ _ hw h.2⟩
  | fuel + 1, _, _, _, hw, h => ⟨fun h0 => hQ _ _ hw (h.1 h0), fun i hi => wpOpIn_of_qOpInR hnd hw (fun a' w' hw' => wpAnyIn_of_quietR hnd hQ fuel _ a' w' hw') (h.2 i hi)⟩

theorem wpIn_region_quietR {id : Nat} {Q : Exit → Act → World → Prop} {a : Act} {w : World} {l : List Oper} (hnd : l.all (fun o => !isDefer o.op) = true) (hm : P.follows .mixedOrders = true) (hB : Region.lexB .any l.toArray = true)
    (h : wpQuietIn F n P l.toArray (fun w' => ∃ n, w' = w.drewN n) (fun a' => ∀ w', (∃ n, w' = w.drewN n) → Q .normal a' w') l a) : (Code.region id l.toArray true).wpIn F n P Q a w := by
  simp only [Region.lexB, Bool.and_eq_true] at hB
  have hnd' : ∀ o ∈ l.toArray.toList, isDefer o.op = false := fun o ho => by
    have := List.all_eq_true.1 hnd o (by simpa using ho)
    simpa using this
  refine wpIn_region_any hm (wpAnyIn_of_quietR (C := fun w' => ∃ n, w' = w.drewN n) (Q := fun a' => ∀ w', (∃ n, w' = w.drewN n) → Q .normal a' w') hnd' (fun _ w' hw' h => h w' hw') _ _ _ _ ⟨1, rfl⟩ ?_)
  have := wpAnyQIn_lex (F := F) (n := n) (C := fun w' => ∃ n, w' = w.drewN n) (md := .any) hB.1 l.toArray.toList 0 (Array.replicate l.toArray.size false) a (by simp) (by simpa using hB.2) (by simpa using h)
  simpa using this
end Go.Proofs.YtfannkpnmaeljaaGreatDoor.Cal
