import Derived.Test.YtfannkpnmaeljaaGreatDoorGCal4
import Derived.Test.YtfannkpnmaeljaaGreatDoorGTc2
import Derived.Test.YtfannkpnmaeljaaGreatDoorGRi1
import Derived.Test.YtfannkpnmaeljaaGreatDoorGSp2
set_option linter.unusedVariables false
set_option linter.unusedSimpArgs false
/- permit: plain functions: what is permitted, as sets of frames. -/
namespace Go.Proofs.YtfannkpnmaeljaaGreatDoor

structure It where
  id : Int
  kd : Int
  fr : Int
  sp : Int
  rt : Int
deriving DecidableEq, Inhabited
def It.zero : It := ⟨0, 0, 0, 0, 0⟩
def It.get (x : It) : Nat → Int
  | 0 => x.id | 1 => x.kd | 2 => x.fr | 3 => x.sp | _ => x.rt

/-- A plan, without its entries and bookings. -/
structure Pl where
  ch : Int
  num : Int
  den : Int
  off : Int
  sh : List (Int × Int)
  ep : Int
  rg : Int
  ln : Int
  fl : Int
  its : List It
  cls : List Cl

def fz (l : List It) (id : Int) : Option It := l.find? fun x => decide (x.id = id)
def tmZ (P : Pl) : Bool := (Tc.rtOf P.num P.den).isSome && Cal.validZ P.off P.sh && decide (0 ≤ P.ep) && decide (P.ep ≤ 9000000000)
def secZ (P : Pl) (f : Int) : Int := P.ep + Tc.secF P.num P.den f
def winsZ (P : Pl) (rt s : Int) : Bool := (wshZ P.cls rt).all fun w => Cal.withinZ P.off P.sh s w.1 w.2
def perS (P : Pl) (x : It) (r s : Int) : Bool := hasZ (spnZ P.cls x.id r) s && winsZ P x.rt s
def regB (r : Int) : Bool := decide (0 ≤ r) && decide (r < 8)
def frB (f : Int) : Bool := decide (0 ≤ f) && decide (f ≤ 100000000)
/-- Whether an item is permitted in a region at a frame. -/
def perB (P : Pl) (id r f : Int) : Bool :=
  match fz P.its id with
  | none => false
  | some x => regB r && frB f && (decide (x.kd = 5) || (tmZ P && perS P x r (secZ P f)))

def setsZ (P : Pl) (x : It) (r : Int) (s : Int × Int) : List (List (Int × Int)) := spnZ P.cls x.id r :: (wshZ P.cls x.rt).map fun w => Cal.spansZ P.off P.sh s.1 s.2 w.1 w.2
def secsZ (P : Pl) (x : It) (r : Int) (s : Int × Int) : List (Int × Int) := (setsZ P x r s).foldl intZ [s]
def frmP (P : Pl) (t : Int × Int) : Int × Int := (Tc.frmF P.num P.den (t.1 - P.ep), Tc.frmF P.num P.den (t.2 - P.ep))
def spnS (P : Pl) (a b : Int) : Int × Int := (secZ P a, secZ P (b - 1) + 1)
def resZ (P : Pl) (x : It) (r a b : Int) : List (Int × Int) := intZ ((secsZ P x r (spnS P a b)).map (frmP P)) [(a, b)]
def clipB (a b : Int) : Bool := decide (max a 0 < min b 100000001) && decide (min b 100000001 - max a 0 ≤ 1000000)
/-- What Spans returns. -/
def spnC (P : Pl) (id r a b : Int) : List (Int × Int) :=
  match fz P.its id with
  | none => []
  | some x => if clipB a b && regB r then (if x.kd = 5 then [(max a 0, min b 100000001)] else if tmZ P then resZ P x r (max a 0) (min b 100000001) else []) else []

/-! ### Seconds and frames -/
theorem rt_pos {x : Tc.Rt} (h : x ∈ Tc.rtL) : 1 ≤ x.num ∧ x.num ≤ 60000 ∧ 1 ≤ x.den ∧ x.den ≤ 1001 ∧ 23 * x.den ≤ x.num ∧ x.num ≤ 60 * x.den := by
  rcases Tc.rt_cases h with rfl | rfl | rfl | rfl | rfl | rfl | rfl | rfl <;> decide
theorem ceil_le (a d f : Nat) (hd : 1 ≤ d) : (a + d - 1) / d ≤ f ↔ a ≤ f * d := by
  rw [← Nat.lt_succ_iff, Nat.div_lt_iff_lt_mul hd, Nat.succ_mul]
  omega
theorem tm_rt {P : Pl} (h : tmZ P = true) : (∃ x, Tc.rtOf P.num P.den = some x ∧ x ∈ Tc.rtL) ∧ Cal.validZ P.off P.sh = true ∧ 0 ≤ P.ep ∧ P.ep ≤ 9000000000 := by
  unfold tmZ at h
  simp only [Bool.and_eq_true, decide_eq_true_eq] at h
  obtain ⟨⟨⟨h1, h2⟩, h3⟩, h4⟩ := h
  obtain ⟨x, hx⟩ := Option.isSome_iff_exists.1 h1
  exact ⟨⟨x, hx, (Tc.rtOf_some hx).1⟩, h2, h3, h4⟩
theorem sec_in {P : Pl} (h : tmZ P = true) {f : Int} (h0 : 0 ≤ f) (h1 : f ≤ 100000000) : 0 ≤ Tc.secF P.num P.den f ∧ Tc.secF P.num P.den f ≤ 4400000 := by
  obtain ⟨⟨x, hx, hm⟩, -⟩ := tm_rt h
  obtain ⟨p1, p2, p3, p4, p5, p6⟩ := rt_pos hm
  unfold Tc.secF
  rw [hx]
  simp only []
  rw [if_pos ⟨h0, h1⟩]
  refine ⟨Int.natCast_nonneg _, ?_⟩
  have : f.toNat * x.den / x.num ≤ 4400000 := by
    refine Nat.le_of_lt_succ ((Nat.div_lt_iff_lt_mul p1).2 ?_)
    have h2 : f.toNat ≤ 100000000 := by omega
    have h3 := Nat.mul_le_mul_right x.den h2
    have h4 : 4400001 * (23 * x.den) ≤ 4400001 * x.num := Nat.mul_le_mul_left _ p5
    omega
  omega
/-- A frame lies from second n on just where its second is at least n. -/
theorem frm_sec {P : Pl} (h : tmZ P = true) {f n : Int} (h0 : 0 ≤ f) (h1 : f ≤ 100000000) (n0 : 0 ≤ n) (n1 : n ≤ 10000000000) : Tc.frmF P.num P.den n ≤ f ↔ n ≤ Tc.secF P.num P.den f := by
  obtain ⟨⟨x, hx, hm⟩, -⟩ := tm_rt h
  obtain ⟨p1, p2, p3, p4, p5, p6⟩ := rt_pos hm
  unfold Tc.secF Tc.frmF
  rw [hx]
  simp only []
  rw [if_pos (show 0 ≤ f ∧ f ≤ 100000000 from ⟨h0, h1⟩), if_pos (show 0 ≤ n ∧ n ≤ 10000000000 from ⟨n0, n1⟩)]
  have h2 := ceil_le (n.toNat * x.num) x.den f.toNat p3
  have h3 : n.toNat ≤ f.toNat * x.den / x.num ↔ n.toNat * x.num ≤ f.toNat * x.den := Nat.le_div_iff_mul_le p1
  constructor
  · intro h; have := h3.2 (h2.1 (by omega)); omega
  · intro h; have := h2.2 (h3.1 (by omega)); omega
theorem sec_mono {P : Pl} (h : tmZ P = true) {f g : Int} (h0 : 0 ≤ f) (h1 : f ≤ g) (h2 : g ≤ 100000000) : Tc.secF P.num P.den f ≤ Tc.secF P.num P.den g := by
  obtain ⟨⟨x, hx, hm⟩, -⟩ := tm_rt h
  unfold Tc.secF
  rw [hx]
  simp only []
  rw [if_pos (show 0 ≤ f ∧ f ≤ 100000000 from ⟨h0, by omega⟩), if_pos (show 0 ≤ g ∧ g ≤ 100000000 from ⟨by omega, h2⟩)]
  have := Nat.div_le_div_right (c := x.num) (Nat.mul_le_mul_right x.den (show f.toNat ≤ g.toNat by omega))
  omega
theorem sec_span {P : Pl} (h : tmZ P = true) {f g : Int} (h0 : 0 ≤ f) (h1 : f ≤ g) (h2 : g ≤ 100000000) (h3 : g - f ≤ 1000000) : Tc.secF P.num P.den g - Tc.secF P.num P.den f ≤ 50000 := by
  obtain ⟨⟨x, hx, hm⟩, -⟩ := tm_rt h
  obtain ⟨p1, p2, p3, p4, p5, p6⟩ := rt_pos hm
  unfold Tc.secF
  rw [hx]
  simp only []
  rw [if_pos (show 0 ≤ f ∧ f ≤ 100000000 from ⟨h0, by omega⟩), if_pos (show 0 ≤ g ∧ g ≤ 100000000 from ⟨by omega, h2⟩)]
  have h4 : g.toNat * x.den ≤ f.toNat * x.den + 49999 * x.num := by
    have e1 : g.toNat * x.den ≤ (f.toNat + 1000000) * x.den := Nat.mul_le_mul_right _ (by omega)
    rw [Nat.add_mul] at e1
    have e2 : 49999 * (23 * x.den) ≤ 49999 * x.num := Nat.mul_le_mul_left _ p5
    omega
  have h5 := Nat.div_le_div_right (c := x.num) h4
  rw [Nat.add_mul_div_right _ _ p1] at h5
  omega

/-! ### Sets -/
theorem fold_has (y : Int) : ∀ (L : List (List (Int × Int))) (l : List (Int × Int)), hasZ (L.foldl intZ l) y = (hasZ l y && L.all fun m => hasZ m y)
  | [], l => by simp
  | m :: L, l => by rw [List.foldl_cons, fold_has y L, intZ_has, List.all_cons, Bool.and_assoc]
theorem fold_asc : ∀ (L : List (List (Int × Int))) (l : List (Int × Int)), Asc l → Asc (L.foldl intZ l)
  | [], _, h => h
  | m :: L, l, _ => fold_asc L _ (intZ_asc l m)
theorem int_nil (m : List (Int × Int)) : intZ [] m = [] := asc_ext _ _ (intZ_asc _ _) Asc.nil fun x => by rw [intZ_has, hasZ_nil]; rfl
theorem fold_nil : ∀ L : List (List (Int × Int)), L.foldl intZ [] = []
  | [] => rfl
  | m :: L => by rw [List.foldl_cons, int_nil, fold_nil L]
theorem fold_len : ∀ (L : List (List (Int × Int))) (l : List (Int × Int)), (L.foldl intZ l).length ≤ l.length + (L.map List.length).sum
  | [], l => by simp
  | m :: L, l => by
    have := fold_len L (intZ l m)
    have := int_len1 l m
    rw [List.foldl_cons, List.map_cons, List.sum_cons]
    omega
theorem fold_in {a b : Int} : ∀ (L : List (List (Int × Int))) (l : List (Int × Int)), Asc l → (∀ x, hasZ l x = true → a ≤ x ∧ x < b) → ∀ x, hasZ (L.foldl intZ l) x = true → a ≤ x ∧ x < b := fun L l _ h x hx => by
  rw [fold_has, Bool.and_eq_true] at hx
  exact h x hx.1
theorem asc_bounds {l : List (Int × Int)} (h : Asc l) {a b : Int} (hx : ∀ x, hasZ l x = true → a ≤ x ∧ x < b) : ∀ s ∈ l, a ≤ s.1 ∧ s.1 < s.2 ∧ s.2 ≤ b := fun s hs => by
  have h1 := h.1 s hs
  have h2 := hx s.1 (hasZ_iff.2 ⟨s, hs, by omega, h1⟩)
  have h3 := hx (s.2 - 1) (hasZ_iff.2 ⟨s, hs, by omega, by omega⟩)
  omega
theorem one_has (s : Int × Int) (x : Int) : hasZ [s] x = inS s x := by simp [hasZ]
theorem one_asc {a b : Int} (h : a < b) : Asc [(a, b)] := ⟨fun s hs => by obtain rfl := List.mem_singleton.1 hs; exact h, by simp⟩

theorem wsh_ok {l : List Cl} {rt : Int} {w : Int × Int} (h : w ∈ wshZ l rt) : 0 ≤ w.1 ∧ w.1 < 86400 ∧ 0 ≤ w.2 ∧ w.2 < 86400 ∧ w.1 ≠ w.2 := by
  unfold wshZ at h
  obtain ⟨c, hc, rfl⟩ := List.mem_map.1 h
  obtain ⟨-, h2⟩ := List.mem_filter.1 hc
  simp only [Bool.and_eq_true, decide_eq_true_eq] at h2
  obtain ⟨⟨k6, -⟩, hv⟩ := h2
  unfold vldZ at hv
  rw [if_neg (by omega), if_neg (by omega), if_neg (by omega), if_neg (by omega), if_pos k6] at hv
  simp only [Bool.and_eq_true, mnt, frm, decide_eq_true_eq, Bool.not_eq_true', decide_eq_false_iff_not] at hv
  dsimp only
  omega
theorem wsh_len (l : List Cl) (rt : Int) : (wshZ l rt).length ≤ l.length := by
  unfold wshZ
  rw [List.length_map]
  exact List.length_filter_le _ _

theorem spans_math {P : Pl} (h : tmZ P = true) {F T : Int} (hF : 0 ≤ F) (hFT : F ≤ T) (hn : T ≤ 10000000000) (hl : T - F ≤ 1000000) {w : Int × Int} {rt : Int} (hw : w ∈ wshZ P.cls rt) :
    Asc (Cal.spansZ P.off P.sh F T w.1 w.2) ∧ (∀ s ∈ Cal.spansZ P.off P.sh F T w.1 w.2, F ≤ s.1 ∧ s.1 < s.2 ∧ s.2 ≤ T) ∧ ∀ y, F ≤ y → y < T → hasZ (Cal.spansZ P.off P.sh F T w.1 w.2) y = Cal.withinZ P.off P.sh y w.1 w.2 := by
  obtain ⟨-, hv, -⟩ := tm_rt h
  obtain ⟨w0, w1, w2, w3, -⟩ := wsh_ok hw
  obtain ⟨n, rfl⟩ : ∃ n : Nat, T = F + n := ⟨(T - F).toNat, by omega⟩
  obtain ⟨L, M, rfl, -, -, -, g, -, -, -, hx⟩ := Cal.wins_math (n := n) hv hF hn w0 w1 w2 w3 (by omega)
  exact ⟨⟨fun s hs => (g.2 s hs).2.1, g.1⟩, g.2, fun y h1 h2 => hx y h1 h2⟩

theorem clip_iff {a b : Int} : clipB a b = true ↔ max a 0 < min b 100000001 ∧ min b 100000001 - max a 0 ≤ 1000000 := by
  unfold clipB; simp
theorem secs_has {P : Pl} (h : tmZ P = true) (x : It) (r : Int) {a b : Int} (h0 : 0 ≤ a) (hab : a < b) (hb : b ≤ 100000001) (hn : b - a ≤ 1000000) {f : Int} (f0 : a ≤ f) (f1 : f < b) :
    hasZ (secsZ P x r (spnS P a b)) (secZ P f) = perS P x r (secZ P f) := by
  obtain ⟨-, -, e0, e1⟩ := tm_rt h
  have m1 := sec_mono h h0 f0 (by omega)
  have m2 := sec_mono h (by omega) (show f ≤ b - 1 by omega) (by omega)
  have i0 := sec_in h h0 (show a ≤ 100000000 by omega)
  have i1 := sec_in h (f := b - 1) (by omega) (by omega)
  have sp := sec_span h h0 (show a ≤ b - 1 by omega) (by omega) (by omega)
  unfold secsZ
  rw [fold_has, one_has]
  unfold spnS
  have hin : inS (secZ P a, secZ P (b - 1) + 1) (secZ P f) = true := inS_iff.2 (by unfold secZ; dsimp only; omega)
  rw [hin, Bool.true_and]
  unfold setsZ perS winsZ
  rw [List.all_cons, List.all_map]
  congr 1
  rw [Bool.eq_iff_iff, List.all_eq_true, List.all_eq_true]
  refine forall₂_congr fun w hw => ?_
  obtain ⟨-, -, hy⟩ := spans_math h (F := secZ P a) (T := secZ P (b - 1) + 1) (by unfold secZ; omega) (by unfold secZ; omega) (by unfold secZ; omega) (by unfold secZ; omega) hw
  show hasZ (Cal.spansZ P.off P.sh (secZ P a) (secZ P (b - 1) + 1) w.1 w.2) (secZ P f) = true ↔ _
  rw [hy _ (by unfold secZ; omega) (by unfold secZ; omega)]
theorem secs_ok {P : Pl} (h : tmZ P = true) (x : It) (r : Int) {a b : Int} (h0 : 0 ≤ a) (hab : a < b) (hb : b ≤ 100000001) :
    Asc (secsZ P x r (spnS P a b)) ∧ ∀ s ∈ secsZ P x r (spnS P a b), secZ P a ≤ s.1 ∧ s.1 < s.2 ∧ s.2 ≤ secZ P (b - 1) + 1 := by
  have m1 := sec_mono h h0 (show a ≤ b - 1 by omega) (by omega)
  have ha : Asc [spnS P a b] := one_asc (by unfold secZ; omega)
  have hA : Asc (secsZ P x r (spnS P a b)) := fold_asc _ _ ha
  refine ⟨hA, asc_bounds hA fun y hy => ?_⟩
  exact fold_in _ _ ha (fun y hy => by rw [one_has] at hy; exact inS_iff.1 hy) y hy
theorem map_has {P : Pl} (h : tmZ P = true) {f : Int} (f0 : 0 ≤ f) (f1 : f ≤ 100000000) : ∀ {l : List (Int × Int)}, (∀ s ∈ l, P.ep ≤ s.1 ∧ P.ep ≤ s.2 ∧ s.1 ≤ P.ep + 10000000000 ∧ s.2 ≤ P.ep + 10000000000) → hasZ (l.map (frmP P)) f = hasZ l (secZ P f)
  | [], _ => rfl
  | s :: l, hl => by
    rw [List.map_cons, hasZ_cons, hasZ_cons, map_has h f0 f1 fun t ht => hl t (by simp [ht])]
    congr 1
    have hs := hl s (by simp)
    have e1 := frm_sec h f0 f1 (n := s.1 - P.ep) (by omega) (by omega)
    have e2 := frm_sec h f0 f1 (n := s.2 - P.ep) (by omega) (by omega)
    rw [Bool.eq_iff_iff, inS_iff, inS_iff]
    unfold frmP secZ
    dsimp only
    omega
theorem res_has {P : Pl} (h : tmZ P = true) (x : It) (r : Int) {a b : Int} (h0 : 0 ≤ a) (hab : a < b) (hb : b ≤ 100000001) (hn : b - a ≤ 1000000) (f : Int) :
    hasZ (resZ P x r a b) f = (decide (a ≤ f) && decide (f < b) && perS P x r (secZ P f)) := by
  unfold resZ
  rw [intZ_has, one_has]
  have hin : inS (a, b) f = (decide (a ≤ f) && decide (f < b)) := rfl
  rw [hin, Bool.and_comm]
  cases hc : (decide (a ≤ f) && decide (f < b)) with
  | false => rfl
  | true =>
    rw [Bool.true_and, Bool.true_and]
    simp only [Bool.and_eq_true, decide_eq_true_eq] at hc
    obtain ⟨-, -, e0, e1⟩ := tm_rt h
    have i0 := sec_in h h0 (show a ≤ 100000000 by omega)
    have i1 := sec_in h (f := b - 1) (by omega) (by omega)
    rw [map_has h (by omega) (by omega) fun s hs => ?_, secs_has h x r h0 hab hb hn hc.1 hc.2]
    have := (secs_ok h x r h0 hab hb).2 s hs
    unfold secZ at this
    omega

theorem spnC_asc (P : Pl) (id r a b : Int) : Asc (spnC P id r a b) := by
  unfold spnC
  split
  · exact Asc.nil
  · split
    · rename_i x _ hc
      rw [Bool.and_eq_true] at hc
      have := clip_iff.1 hc.1
      split
      · exact one_asc this.1
      · split
        · exact intZ_asc _ _
        · exact Asc.nil
    · exact Asc.nil
theorem spnC_has (P : Pl) (id r a b f : Int) : hasZ (spnC P id r a b) f = (clipB a b && decide (a ≤ f) && decide (f < b) && perB P id r f) := by
  unfold spnC perB
  split
  · simp [hasZ_nil]
  · rename_i x hx
    cases hr : regB r with
    | false => simp [hasZ_nil]
    | true =>
      cases hc : clipB a b with
      | false => simp [hasZ_nil]
      | true =>
        have hk := clip_iff.1 hc
        rw [Bool.and_self, if_pos rfl, Bool.true_and, Bool.true_and]
        have hin : (decide (max a 0 ≤ f) && decide (f < min b 100000001)) = (decide (a ≤ f) && decide (f < b) && frB f) := by
          unfold frB; rw [Bool.eq_iff_iff]; simp only [Bool.and_eq_true, decide_eq_true_eq]; omega
        by_cases h5 : x.kd = 5
        · rw [if_pos h5, one_has, decide_eq_true h5, Bool.true_or, Bool.and_true]
          exact hin
        · rw [if_neg h5, decide_eq_false h5, Bool.false_or]
          cases ht : tmZ P with
          | false => simp [hasZ_nil]
          | true =>
            rw [if_pos rfl, res_has ht x r (by omega) hk.1 (by omega) hk.2, hin, Bool.true_and, ← Bool.and_assoc]

/-! ### How long the lists are -/
theorem winRun_len {bg en wl : Int} : ∀ (k : Nat) (l : List (Int × Int)) (op : Int), en - op ≤ 86400 * k → (Cal.winRun bg en wl l op).length ≤ l.length + k
  | 0, l, op, h => by rw [Cal.winRun_end (by omega)]; omega
  | k + 1, l, op, h => by
    by_cases hlt : op < en
    · rw [Cal.winRun_go hlt]
      have h1 := winRun_len (bg := bg) (en := en) (wl := wl) k (Cal.addZ l (max op bg) (min (op + wl) en)) (op + 86400) (by omega)
      have h2 := Cal.addZ_len (l := l) (b := max op bg) (e := min (op + wl) en)
      omega
    · rw [Cal.winRun_end hlt]; omega
theorem spanRun_len {F To a wl : Int} (h : To - F ≤ 86400) : ∀ (T : List Cal.Str) (l : List (Int × Int)), (Cal.spanRun F To a wl l T).length ≤ l.length + 2 * T.length
  | [], l => by unfold Cal.spanRun; omega
  | x :: r, l => by
    unfold Cal.spanRun
    rw [List.length_cons]
    split
    · have := spanRun_len (a := a) (wl := wl) h r l; omega
    · split
      · omega
      · have h1 := spanRun_len (a := a) (wl := wl) h r (Cal.winRun (max x.1 F) (min x.2.1 To) wl l (max x.1 F - (max x.1 F + x.2.2 - a) % 86400))
        have h2 := winRun_len (bg := max x.1 F) (en := min x.2.1 To) (wl := wl) 2 l (max x.1 F - (max x.1 F + x.2.2 - a) % 86400) (by omega)
        omega
theorem spans_len {P : Pl} (h : tmZ P = true) {F T : Int} (hl : T - F ≤ 86400) (u v : Int) : (Cal.spansZ P.off P.sh F T u v).length ≤ 82 := by
  obtain ⟨-, hv, -⟩ := tm_rt h
  obtain ⟨-, hsl, -⟩ := Cal.valid_iff hv
  unfold Cal.spansZ
  split
  · have := spanRun_len (a := u) (wl := Cal.winZ u v) hl (Cal.strs 0 P.off P.sh) []
    rw [Cal.strs_len] at this
    simp only [List.length_nil] at this
    omega
  · simp
theorem sets_ok {P : Pl} (h : tmZ P = true) (hc : P.cls.length ≤ 20) (x : It) (r : Int) {F T : Int} (hF : 0 ≤ F) (hFT : F ≤ T) (hn : T ≤ 10000000000) (hl : T - F ≤ 86400) :
    (setsZ P x r (F, T)).length ≤ 21 ∧ ∀ m ∈ setsZ P x r (F, T), m.length ≤ 82 ∧ Bd m := by
  unfold setsZ
  have h1 := wsh_len P.cls x.rt
  refine ⟨by rw [List.length_cons, List.length_map]; omega, fun m hm => ?_⟩
  rcases List.mem_cons.1 hm with rfl | hm
  · obtain ⟨-, h2, h3⟩ := spnZ_ok P.cls x.id r
    exact ⟨by omega, h2⟩
  · obtain ⟨w, hw, rfl⟩ := List.mem_map.1 hm
    obtain ⟨-, h2, -⟩ := spans_math h hF hFT hn (by omega) hw
    refine ⟨spans_len h hl _ _, fun s hs => ?_⟩
    have := h2 s hs
    omega
theorem fold_bd : ∀ (L : List (List (Int × Int))) (l : List (Int × Int)), Bd l → Bd (L.foldl intZ l)
  | [], _, h => h
  | m :: L, l, h => fold_bd L _ (Bd.int h)
theorem sum_le {c : Nat} : ∀ (L : List (List (Int × Int))), (∀ m ∈ L, m.length ≤ c) → (L.map List.length).sum ≤ c * L.length
  | [], _ => by simp
  | m :: L, h => by
    have h1 := sum_le L fun m hm => h m (by simp [hm])
    have h2 := h m (by simp)
    rw [List.map_cons, List.sum_cons, List.length_cons, Nat.mul_add]
    omega
theorem pre_len {T pre : List (List (Int × Int))} (hT : T.length ≤ 21) (hm : ∀ m ∈ T, m.length ≤ 82 ∧ Bd m) (hp : pre <+: T) (s : Int × Int) : (pre.foldl intZ [s]).length ≤ 2000 := by
  have h1 := fold_len pre [s]
  have h2 := sum_le (c := 82) pre fun m h => (hm m (hp.subset h)).1
  have h3 := hp.length_le
  have h4 : 82 * pre.length ≤ 82 * 21 := Nat.mul_le_mul_left _ (by omega)
  simp only [List.length_cons, List.length_nil] at h1
  omega
theorem frm_bd (a b n : Int) : -1 ≤ Tc.frmF a b n ∧ Tc.frmF a b n ≤ 1000000000000000 := by
  unfold Tc.frmF
  split
  · rename_i x hx
    obtain ⟨p1, p2, p3, p4, p5, p6⟩ := rt_pos (Tc.rtOf_some hx).1
    split
    · rename_i h
      have h1 : n.toNat * x.num ≤ 10000000000 * 60000 := Nat.mul_le_mul (by omega) p2
      have h2 := Nat.div_le_self (n.toNat * x.num + x.den - 1) x.den
      generalize n.toNat * x.num = A at *
      generalize (A + x.den - 1) / x.den = D at *
      omega
    · omega
  · omega
theorem frmP_bd (P : Pl) (l : List (Int × Int)) : Bd (l.map (frmP P)) := fun s hs => by
  obtain ⟨t, -, rfl⟩ := List.mem_map.1 hs
  have h1 := frm_bd P.num P.den (t.1 - P.ep)
  have h2 := frm_bd P.num P.den (t.2 - P.ep)
  unfold frmP
  dsimp only
  omega
end Go.Proofs.YtfannkpnmaeljaaGreatDoor

/- permit: plans and items in memory; find and the small functions. -/
namespace Go.Proofs.YtfannkpnmaeljaaGreatDoor
open Go.RowKit Go.Shelf

/-- Items lie at p. -/
def ItAt (w : World) (n₀ : Nat) (p : Option Addr) (l : List It) : Prop :=
  ∀ i, i < l.length → ∃ b o, p = some ⟨b, o, none⟩ ∧ b < n₀ ∧ ∀ j, j < 5 → w.cell? ⟨b, o + i * 5 + j, none⟩ = some (iv ((l.getD i It.zero).get j))
theorem ItAt.below {w w' : World} {n₀ : Nat} {p : Option Addr} {l : List It} (h : ItAt w n₀ p l) (hb : Below n₀ w w') : ItAt w' n₀ p l := fun i hi => by
  obtain ⟨b, o, h1, h2, h3⟩ := h i hi
  exact ⟨b, o, h1, h2, fun j hj => (hb.cell (p := ⟨b, _, none⟩) h2).trans (h3 j hj)⟩
theorem ItAt.mono {w : World} {n₀ n₁ : Nat} {p : Option Addr} {l : List It} (h : ItAt w n₀ p l) (hn : n₀ ≤ n₁) : ItAt w n₁ p l := fun i hi => by
  obtain ⟨b, o, h1, h2, h3⟩ := h i hi
  exact ⟨b, o, h1, by omega, h3⟩
theorem ItAt.into {w w' : World} {p : Option Addr} {l : List It} (h : ItAt w w.heap.size p l) (hb : Below w.heap.size w w') : ItAt w' w'.heap.size p l := (h.below hb).mono hb.size
theorem ItAt.nil (w : World) (n : Nat) (p : Option Addr) : ItAt w n p [] := fun i hi => by cases hi
theorem ItAt.cells {w : World} {n₀ : Nat} {p : Option Addr} {l : List It} (h : ItAt w n₀ p l) {k : Nat} (hk : k < l.length) : ∃ b o, p = some ⟨b, o, none⟩ ∧ b < n₀ ∧
    w.cell? ⟨b, o + k * 5, none⟩ = some (iv (l.getD k It.zero).id) ∧ w.cell? ⟨b, o + k * 5 + 1, none⟩ = some (iv (l.getD k It.zero).kd) ∧ w.cell? ⟨b, o + k * 5 + 2, none⟩ = some (iv (l.getD k It.zero).fr) ∧
    w.cell? ⟨b, o + k * 5 + 3, none⟩ = some (iv (l.getD k It.zero).sp) ∧ w.cell? ⟨b, o + k * 5 + 4, none⟩ = some (iv (l.getD k It.zero).rt) := by
  obtain ⟨b, o, e, hb, hc⟩ := h k hk
  exact ⟨b, o, e, hb, hc 0 (by decide), hc 1 (by decide), hc 2 (by decide), hc 3 (by decide), hc 4 (by decide)⟩

/-- Where a plan's lists lie. -/
structure Pq where
  ps : Option Addr
  cs : Nat
  pi : Option Addr
  ci : Nat
  pe : Option Addr
  le : Nat
  ce : Nat
  pb : Option Addr
  lb : Nat
  cb : Nat
  pc : Option Addr
  cc : Nat
abbrev plL (P : Pl) (q : Pq) : List Value :=
  [iv P.ch, iv P.num, iv P.den, iv P.off, .slice q.ps P.sh.length q.cs, iv P.ep, iv P.rg, iv P.ln, iv P.fl, .slice q.pi P.its.length q.ci, .slice q.pe q.le q.ce, .slice q.pb q.lb q.cb, .slice q.pc P.cls.length q.cc]
abbrev itL (x : It) : List Value := [iv x.id, iv x.kd, iv x.fr, iv x.sp, iv x.rt]
/-- A plan's lists lie below n₀; they are of sizes that a list has. -/
structure PlAt (w : World) (n₀ : Nat) (P : Pl) (q : Pq) : Prop where
  sh : ShAt w n₀ q.ps P.sh
  its : ItAt w n₀ q.pi P.its
  cls : ClAt w n₀ q.pc P.cls
  ls : P.sh.length ≤ 1000
  li : P.its.length ≤ 10000
  lc : P.cls.length ≤ 20
theorem PlAt.below {w w' : World} {n₀ : Nat} {P : Pl} {q : Pq} (h : PlAt w n₀ P q) (hb : Below n₀ w w') : PlAt w' n₀ P q := ⟨h.sh.below hb, h.its.below hb, h.cls.below hb, h.ls, h.li, h.lc⟩
theorem PlAt.mono {w : World} {n₀ n₁ : Nat} {P : Pl} {q : Pq} (h : PlAt w n₀ P q) (hn : n₀ ≤ n₁) : PlAt w n₁ P q := ⟨h.sh.mono hn, h.its.mono hn, h.cls.mono hn, h.ls, h.li, h.lc⟩
theorem PlAt.into {w w' : World} {P : Pl} {q : Pq} (h : PlAt w w.heap.size P q) (hb : Below w.heap.size w w') : PlAt w' w'.heap.size P q := (h.below hb).mono hb.size

theorem itL_one (x : It) : (itL x).toArray.all (·.oneCell') = true := by simp [Value.oneCell']
theorem boxP (w : World) (P : Pl) (q : Pq) : ∃ W0, w.alloc (.cells (plL P q).toArray 32) = W0 ∧ Below w.heap.size w W0 ∧ W0.heap.size = w.heap.size + 1 ∧ Arr W0 w.heap.size 32 (plL P q) :=
  ⟨_, rfl, (Below.refl _ w).alloc (Nat.le_refl _) _, by simp, Arr.new w _ _⟩
theorem boxA (w : World) (t : TypeId) (vs : List Value) : ∃ W0, w.alloc (.cells vs.toArray t) = W0 ∧ Below w.heap.size w W0 ∧ W0.heap.size = w.heap.size + 1 ∧ Arr W0 w.heap.size t vs :=
  ⟨_, rfl, (Below.refl _ w).alloc (Nat.le_refl _) _, by simp, Arr.new w _ _⟩

theorem pFrame_any (n : Int) (w : World) : Calls Tryz.prog 48 #[iv n] w fun e w' => e = .returned (.bool (frB n)) ∧ w = w' := by
  cases h1 : decide (0 ≤ n) <;> cases h2 : decide (n ≤ 100000000) <;> (
    have hr : frB n = (decide (0 ≤ n) && decide (n ≤ 100000000)) := rfl
    rw [h1, h2] at hr
    have HR := Lib.hid hr
    clear hr
    go_enter Tryz.func48, Tryz.ntmps48
    go_wp2
    go_ret
    exact ⟨by rw [HR.out]; rfl, rfl⟩)
theorem pRegion_any (n : Int) (w : World) : Calls Tryz.prog 39 #[iv n] w fun e w' => e = .returned (.bool (regB n)) ∧ w = w' := by
  cases h1 : decide (0 ≤ n) <;> cases h2 : decide (n < 8) <;> (
    have hr : regB n = (decide (0 ≤ n) && decide (n < 8)) := rfl
    rw [h1, h2] at hr
    have HR := Lib.hid hr
    clear hr
    go_enter Tryz.func39, Tryz.ntmps39
    go_wp2
    go_ret
    exact ⟨by rw [HR.out]; rfl, rfl⟩)

/-! ### find -/
def IdxI (id : Int) (l : List It) (r : Int) : Prop :=
  (∃ k : Nat, k < l.length ∧ r = k ∧ (l.getD k It.zero).id = id ∧ ∀ i, i < k → (l.getD i It.zero).id ≠ id) ∨ (r = -1 ∧ ∀ i, i < l.length → (l.getD i It.zero).id ≠ id)
theorem getD_it {l : List It} {i : Nat} (h : i < l.length) : l.getD i It.zero = l[i] := by
  rw [List.getD_eq_getElem?_getD, List.getElem?_eq_getElem h]; rfl
theorem fz_none {l : List It} {id : Int} (h : ∀ i, i < l.length → (l.getD i It.zero).id ≠ id) : fz l id = none := by
  unfold fz
  rw [List.find?_eq_none]
  intro x hx
  obtain ⟨i, hi, rfl⟩ := List.getElem_of_mem hx
  have := h i hi
  rw [getD_it hi] at this
  simpa using this
theorem fz_some : ∀ {l : List It} {id : Int} {k : Nat}, k < l.length → (l.getD k It.zero).id = id → (∀ i, i < k → (l.getD i It.zero).id ≠ id) → fz l id = some (l.getD k It.zero)
  | [], _, k, hk, _, _ => by simp at hk
  | x :: l, id, 0, _, h, _ => by
    have : x.id = id := h
    unfold fz
    rw [List.find?_cons_of_pos (by simpa using this)]
    rfl
  | x :: l, id, k + 1, hk, h, hn => by
    have h0 : x.id ≠ id := hn 0 (by omega)
    unfold fz
    rw [List.find?_cons_of_neg (by simpa using h0)]
    exact fz_some (l := l) (k := k) (by simpa using hk) h fun i hi => hn (i + 1) (by omega)
theorem fz_id {l : List It} {id : Int} {x : It} (h : fz l id = some x) : x.id = id := by
  have := List.find?_some h
  simpa using this

set_option maxHeartbeats 1000000 in
theorem findClosure (id : Int) (B : Nat) (x : It) (W : World) (hc : Arr W B 3 [iv id]) :
    Calls Tryz.prog 64 #[.agg (itL x).toArray, .pointer (some ⟨B, 0, none⟩)] W fun e w' => e = .returned (.bool (x.id == id)) ∧ Below W.heap.size W w' := by
  have hB := hc.lt
  have hne : B ≠ W.heap.size := by omega
  have c0 := hc.cell (i := 0) rfl
  cases e1 : (x.id == id) <;> (
    go_enter Tryz.func64, Tryz.ntmps64
    go_wp2
    go_ret
    exact ⟨rfl, (Below.refl _ W).alloc (Nat.le_refl _) _⟩)

set_option maxRecDepth 100000 in
set_option maxHeartbeats 1000000 in
theorem indexI_any (id : Int) (B : Nat) (p : Option Addr) (cap : Nat) (l : List It) (w : World) (hS : ItAt w w.heap.size p l) (hlen : l.length ≤ 100000) (hB : Arr w B 3 [iv id]) :
    Calls Tryz.prog 63 #[.slice p l.length cap, .func (.func 64) #[] #[.pointer (some ⟨B, 0, none⟩)]] w fun e w' => (∃ r, e = .returned (iv r) ∧ IdxI id l r) ∧ Below w.heap.size w w' := by
  have eg : ∀ args w, (callFunc 64 args).run Tryz.prog w = .ok (.enter 64 args) w := enters_of Tryz.func64 (by kernel_rfl) rfl
  go_enter Tryz.func63, Tryz.ntmps63
  go_wp2_with fail
  go_loopw [8] (fun s wr => ∃ k : Nat, s = .int .i64 k ∧ k ≤ l.length ∧ Below w.heap.size w wr ∧ ∀ i, i < k → (l.getD i It.zero).id ≠ id) (fun s _ => l.length - (intOf s).toNat)
  case atStart => exact ⟨0, rfl, Nat.zero_le _, Below.refl _ _, fun i hi => by omega⟩
  case round =>
    obtain ⟨k, rfl, hk, hb, hall⟩ := hrel
    have HA := Lib.hid hall; clear hall
    by_cases hlt : k < l.length
    · obtain ⟨b, o, rfl, hbl, q0, q1, q2, q3, q4⟩ := (hS.below hb).cells hlt
      have hcall := findClosure id B (l.getD k It.zero) wr (hB.below hb hB.lt)
      obtain ⟨X, hX⟩ : ∃ X, l.getD k It.zero = X := ⟨_, rfl⟩
      rw [hX] at q0 q1 q2 q3 q4 hcall
      have HX := Lib.hid hX; clear hX
      have hidx : (k : Int) * 5 = ((k * 5 : Nat) : Int) := by omega
      clear hS hB
      cases e1 : (X.id == id) with
      | true =>
        rw [e1] at hcall
        go_wp2_with (go_at_fn 64; refine hcall.mono ?_; rintro e w6 ⟨rfl, b6⟩)
        go_ret
        exact ⟨⟨_, rfl, .inl ⟨k, hlt, rfl, by rw [HX.out]; simpa using e1, HA.out⟩⟩, hb.trans (b6.mono hb.size)⟩
      | false =>
        rw [e1] at hcall
        go_wp2_with (go_at_fn 64; refine hcall.mono ?_; rintro e w6 ⟨rfl, b6⟩)
        refine ⟨⟨k + 1, by go_num, by omega, hb.trans (b6.mono hb.size), fun i hi => ?_⟩, by simp [intOf]; omega⟩
        rcases (by omega : i < k ∨ i = k) with h | rfl
        · exact HA.out i h
        · rw [HX.out]; simpa using e1
    · obtain rfl : k = l.length := by omega
      go_wp2_with fail
      go_ret
      exact ⟨⟨_, rfl, .inr ⟨rfl, HA.out⟩⟩, hb⟩

set_option maxRecDepth 100000 in
set_option maxHeartbeats 2000000 in
theorem find_any (P : Pl) (q : Pq) (id : Int) (w : World) (hP : PlAt w w.heap.size P q) :
    Calls Tryz.prog 37 #[.agg (plL P q).toArray, iv id] w fun e w' => e = .returned (.tuple #[.agg (itL ((fz P.its id).getD It.zero)).toArray, .bool (fz P.its id).isSome]) ∧ Below w.heap.size w w' := by
  have hI := hP.its
  have hli := hP.li
  clear hP
  obtain ⟨Z, hZ⟩ : ∃ Z, fz P.its id = Z := ⟨_, rfl⟩
  rw [hZ]
  have HZ := Lib.hid hZ
  clear hZ
  go_enter Tryz.func37, Tryz.ntmps37
  go_wp2_with fail
  obtain ⟨W3, hW3, b3, z3, kP, kI, kR⟩ : ∃ W3, ((w.alloc (.cells (plL P q).toArray 32)).alloc (.cells #[iv id] 3)).alloc (.cells #[iv 0, iv 0, iv 0, iv 0, iv 0] 60) = W3 ∧ Below w.heap.size w W3 ∧ W3.heap.size = w.heap.size + 1 + 1 + 1 ∧
      Arr W3 w.heap.size 32 (plL P q) ∧ Arr W3 (w.heap.size + 1) 3 [iv id] ∧ Arr W3 (w.heap.size + 1 + 1) 60 (itL It.zero) :=
    ⟨_, rfl, (((Below.refl _ w).alloc (Nat.le_refl _) _).alloc (by simp) _).alloc (by simp; omega) _, by simp, ((Arr.new w _ (plL P q)).alloc _).alloc _, (Arr.new' _ [iv id] (by simp)).alloc _, Arr.new' _ (itL It.zero) (by simp)⟩
  rw [hW3]
  clear hW3
  refine (indexI_any id (w.heap.size + 1) q.pi q.ci P.its W3 (hI.into b3) (by omega) kI).mono ?_
  rintro e W4 ⟨⟨r, rfl, hr⟩, b4⟩
  have b34 := b3.trans (b4.mono b3.size)
  have kR4 := kR.below b4 (by omega)
  have kP4 := kP.below b4 (by omega)
  have z4 := b4.size
  have hi5 : (Tryz.prog.info? 60).map (·.size) = some 5 := by kernel_rfl
  rcases hr with ⟨k, hk, rfl, h1, h2⟩ | ⟨rfl, h1⟩
  · obtain ⟨x, hx⟩ : ∃ x, P.its.getD k It.zero = x := ⟨_, rfl⟩
    obtain rfl : Z = some x := HZ.out.symm.trans ((fz_some hk h1 h2).trans (congrArg some hx))
    obtain ⟨b, o, hp, hbl, q0, q1, q2, q3, q4⟩ := (hI.below b34).cells hk
    have kp9 : W4.cell? ⟨w.heap.size, 9, none⟩ = some (.slice q.pi P.its.length q.ci) := kP4.cell (i := 9) rfl
    rw [hp] at kp9
    rw [hx] at q0 q1 q2 q3 q4
    have hidx : (k : Int) * 5 = ((k * 5 : Nat) : Int) := by omega
    clear h1 h2 HZ kI kP kR hx
    go_wp2_with (refine wpList_store_abs rfl 60 _ _ rfl (w.heap.size + 1 + 1) (itL x).toArray rfl rfl 60 (itL It.zero).toArray kR4 hi5 rfl (itL_one _) ?_; intro W5 k5 b5 o5)
    have e0 := (show Arr W5 _ _ (itL x) from k5).cell (i := 0) rfl
    have e1 := (show Arr W5 _ _ (itL x) from k5).cell (i := 1) rfl
    have e2 := (show Arr W5 _ _ (itL x) from k5).cell (i := 2) rfl
    have e3 := (show Arr W5 _ _ (itL x) from k5).cell (i := 3) rfl
    have e4 := (show Arr W5 _ _ (itL x) from k5).cell (i := 4) rfl
    exact bodyPost_ret (v := .tuple #[.agg (itL x).toArray, .bool true]) (by simp [results, Tryz.results37, go_sem, e0, e1, e2, e3, e4]) rfl ⟨rfl, b34.trans (b5.mono (by omega))⟩
  · obtain rfl : Z = none := HZ.out.symm.trans (fz_none h1)
    clear h1 HZ kI kP kR
    go_wp2_with (refine wpList_store_abs rfl 60 _ _ rfl (w.heap.size + 1 + 1) (itL It.zero).toArray rfl rfl 60 (itL It.zero).toArray kR4 hi5 rfl (itL_one _) ?_; intro W5 k5 b5 o5)
    have e0 := (show Arr W5 _ _ (itL It.zero) from k5).cell (i := 0) rfl
    have e1 := (show Arr W5 _ _ (itL It.zero) from k5).cell (i := 1) rfl
    have e2 := (show Arr W5 _ _ (itL It.zero) from k5).cell (i := 2) rfl
    have e3 := (show Arr W5 _ _ (itL It.zero) from k5).cell (i := 3) rfl
    have e4 := (show Arr W5 _ _ (itL It.zero) from k5).cell (i := 4) rfl
    exact bodyPost_ret (v := .tuple #[.agg (itL It.zero).toArray, .bool false]) (by simp [results, Tryz.results37, go_sem, e0, e1, e2, e3, e4]) rfl ⟨rfl, b34.trans (b5.mono (by omega))⟩
end Go.Proofs.YtfannkpnmaeljaaGreatDoor
