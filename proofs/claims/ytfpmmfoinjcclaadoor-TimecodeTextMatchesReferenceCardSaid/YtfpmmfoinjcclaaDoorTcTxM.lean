/- Format and Parse of both implementations as total functions. -/
import Derived.Test.YtfpmmfoinjcclaaDoorTcRefParseW
import Derived.Test.YtfpmmfoinjcclaaDoorTcTot
namespace Go.Proofs.YtfpmmfoinjcclaaDoor
open Go.RowKit

def fmtS (a b n : Int) : ByteArray := match rtOf a b with | some x => if 0 ≤ n ∧ n ≤ 100000000 then strN (fmtL x (n.toNat % x.day)) else ⟨#[]⟩ | none => ⟨#[]⟩
def fmtE (a b n : Int) : Int := match rtOf a b with | some _ => if 0 ≤ n ∧ n ≤ 100000000 then 0 else 30 | none => 30
def prsN (a b : Int) (s : ByteArray) : Int := match rtOf a b with | some x => numO (parseO x s) | none => 0
def prsE (a b : Int) (s : ByteArray) : Int := match rtOf a b with | some x => errO (parseO x s) | none => 30

theorem rparse_any (x : Rt) (hx : x ∈ rtL) (s : ByteArray) (w : World) :
    Calls Tryd.prog 28 #[x.val, .string s] w fun e w' => e = .returned (.tuple #[.int .i64 (numO (parseO x s)), .int .i64 (errO (parseO x s))]) ∧ Below w.heap.size w w' := by
  unfold parseO
  by_cases hs : s.size = 11
  · rw [if_pos hs]
    exact rparse_ok x hx s hs w
  · rw [if_neg hs]
    exact rparse_len x hx s hs w

theorem format_t (a b n : Int) (w : World) (hF : FmtAt w) :
    Calls Tryd.prog 25 #[.agg #[iv a, iv b], .int .i64 n] w fun e w' => e = .returned (.tuple #[.string (fmtS a b n), .int .i64 (fmtE a b n)]) ∧ Below w.heap.size w w' := by
  unfold fmtS fmtE
  cases h : rtOf a b with
  | none => exact format_no a b (rtOf_none h) n w hF
  | some x =>
    obtain ⟨hx, rfl, rfl⟩ := rtOf_some h
    by_cases hn : 0 ≤ n ∧ n ≤ 100000000
    · obtain ⟨k, rfl⟩ : ∃ k : Nat, n = (k : Int) := ⟨n.toNat, by omega⟩
      simp only [if_pos hn, Int.toNat_natCast]
      exact format_ok x hx k (by omega) w hF
    · simp only [if_neg hn]
      exact format_out x hx n hn w hF

theorem rformat_t (a b n : Int) (w : World) :
    Calls Tryd.prog 26 #[.agg #[iv a, iv b], .int .i64 n] w fun e w' => e = .returned (.tuple #[.string (fmtS a b n), .int .i64 (fmtE a b n)]) ∧ Below w.heap.size w w' := by
  unfold fmtS fmtE
  cases h : rtOf a b with
  | none => exact rformat_no a b (rtOf_none h) n w
  | some x =>
    obtain ⟨hx, rfl, rfl⟩ := rtOf_some h
    by_cases hn : 0 ≤ n ∧ n ≤ 100000000
    · obtain ⟨k, rfl⟩ : ∃ k : Nat, n = (k : Int) := ⟨n.toNat, by omega⟩
      simp only [if_pos hn, Int.toNat_natCast]
      exact rformat_ok x hx k (by omega) w
    · simp only [if_neg hn]
      exact rformat_out x hx n hn w

theorem parse_t (a b : Int) (s : ByteArray) (hz : s.size ≤ maxLen) (w : World) (hF : FmtAt w) :
    Calls Tryd.prog 27 #[.agg #[iv a, iv b], .string s] w fun e w' => e = .returned (.tuple #[.int .i64 (prsN a b s), .int .i64 (prsE a b s)]) ∧ Below w.heap.size w w' := by
  unfold prsN prsE
  cases h : rtOf a b with
  | none => exact parse_no a b (rtOf_none h) s w hF
  | some x =>
    obtain ⟨hx, rfl, rfl⟩ := rtOf_some h
    exact parse_any x hx s hz w hF

theorem rparse_t (a b : Int) (s : ByteArray) (w : World) :
    Calls Tryd.prog 28 #[.agg #[iv a, iv b], .string s] w fun e w' => e = .returned (.tuple #[.int .i64 (prsN a b s), .int .i64 (prsE a b s)]) ∧ Below w.heap.size w w' := by
  unfold prsN prsE
  cases h : rtOf a b with
  | none => exact rparse_no a b (rtOf_none h) s w
  | some x =>
    obtain ⟨hx, rfl, rfl⟩ := rtOf_some h
    exact rparse_any x hx s w
end Go.Proofs.YtfpmmfoinjcclaaDoor
