/- TimecodeTextMatchesReference returns true for every rate, every two integers and every string. Conditions: those of the given row and card, no others. -/
import Derived.Test.YtfpmmfoinjcclaaDoorTcTx
import Derived.Test.YtfpmmfoinjcclaaDoorTcLaid
import Derived.Test.YtfpmmfoinjcclaaDoorTcOpen
import Derived.Test.YtfpmmfoinjcclaaDoorLawKit
import Derived.Test.YtfpmmfoinjcclaaDoorTie
import Derived.Test.YtfpmmfoinjcclaaDoorCards
import Derived.ProofKit
namespace Go.Proofs.YtfpmmfoinjcclaaDoor
open Go.ChangeShapes Go.WideShapes Go.ChangeAt Go.WideMaps Go.WideElems Go.RowKit Go.ChangeMaps

namespace TX
theorem spec : LawSpec 4 Rows.timecodeTextMatchesReferenceSpec := ⟨rfl, fun H ds h => by
  match ds, h with
  | [_, _, _, _], _ => exact ⟨rfl, rfl, rfl⟩⟩

set_option maxRecDepth 100000 in
theorem lifted (os : Os) (started : os.Started) (H : Type) (enc : TypeId × Value → H) :
    ReturnsInHanded {} Tryd.checked os 4 .any (fun w args => (Rows.timecodeTextMatchesReferenceSpec.pre enc Tryd.prog Tryd.f4 [] false w args ∧ laidMetH Tryd.prog laidFmt w) ∧ sizedMet enc Tryd.prog Tryd.f4 (OpenSpec.ofChange Rows.timecodeTextMatchesReferenceSpec) false w args)
      (Rows.timecodeTextMatchesReferenceSpec.post enc Tryd.prog Tryd.f4 false true false false) := by
  refine law_lifted (C := Tryd.checked) own laidOut os started H enc (by kernel_rfl) Tryd.func4 Tryd.underlying4 rfl spec (by kernel_rfl)
    (ChangeSpec.witness_shaped (enc := enc) (C := Tryd.checked) (os := os) (X := fun w _ => laidMetH Tryd.prog laidFmt w) false (World.doorLaid Tryd.prog 400 os) #[.agg #[.int .i64 0, .int .i64 0], .int .i64 0, .int .i64 0, .string ⟨#[]⟩] 8 rfl (World.shaped_of_RefB (by kernel_rfl) (by kernel_rfl)) (by kernel_rfl) (by kernel_rfl) (by kernel_rfl) (door_met os _)) ?_
  intro W base args ds before hval0 hA0 hlt hwt0 hL
  have hval : ∀ (j : Nat) t v, Tryd.f4.params[j]? = some t → args[j]? = some v → Value.okWide Tryd.prog W .any base t v := hval0
  have hA : DataW.TrodAll enc Tryd.prog W 0 (fun _ => true) true Tryd.f4.params.toList args.toList ds before := hA0
  have hwt : (DataW.weightsEach Tryd.prog (Tryd.f4.params.toList ++ Rows.timecodeTextMatchesReferenceSpec.plain.varTypes Tryd.prog) (ds ++ [])).all (· ≤ reachBytes) = true := hwt0
  obtain hF := fmt_of_laid hL
  clear hval0 hA0 hwt0
  rw [Tryd.params4] at hA hval hwt
  obtain ⟨l, hl, rfl⟩ : ∃ l : List Value, args.toList = l ∧ args = l.toArray := ⟨args.toList, rfl, by simp⟩
  rw [hl] at hA
  obtain ⟨v0, l0, d0, e0, p0, q0, rfl, rfl, rfl, t0, hA⟩ := trodAll_cons hA
  obtain ⟨v1, l1, d1, e1, p1, q1, rfl, rfl, rfl, t1, hA⟩ := trodAll_cons hA
  obtain ⟨v2, l2, d2, e2, p2, q2, rfl, rfl, rfl, t2, hA⟩ := trodAll_cons hA
  obtain ⟨v3, l3, d3, e3, p3, q3, rfl, rfl, rfl, t3, hA⟩ := trodAll_cons hA
  obtain ⟨rfl, rfl, rfl⟩ := trodAll_nil hA
  clear hl
  obtain ⟨a, b, rfl⟩ := open_rate (hval 0 23 v0 rfl rfl) t0
  obtain ⟨c, rfl, rfl, rfl, wc⟩ := open_int Tryd.underlying3 (hval 1 3 v1 rfl rfl) t1
  have hc := wf64 wc
  obtain ⟨n, rfl, rfl, rfl, wn⟩ := open_int Tryd.underlying3 (hval 2 3 v2 rfl rfl) t2
  have hn := wf64 wn
  obtain ⟨s, rfl, rfl, rfl, ys⟩ := open_string Tryd.underlying9 (hval 3 9 v3 rfl rfl) t3
  exact textm_law a b c n s W hc.1 hc.2 hn.1 hn.2 ys hF

theorem row_holds : Rows.TimecodeTextMatchesReferenceSaid :=
  OpenClaim.holds_of_wide 4 Tryd.f4 rfl rfl rfl rfl rfl rfl rfl ⟨rfl, rfl, rfl, rfl, rfl⟩ rfl rfl rfl rfl rfl (by kernel_rfl) Tryd.func4 (by kernel_rfl)
    (of_decide_eq_true (by kernel_rfl)) (by unfold Func.isWrapper; first | (rw [if_pos (by decide +kernel)]; kernel_rfl) | (rw [if_neg (by decide +kernel)]; exact ⟨rfl, rfl⟩))
    (fun os started H enc _ => lifted os started H enc)

theorem card_holds : Rows.TimecodeTextMatchesReferenceCardSaid :=
  Claim7.holds_tied_plain_at .later [] [.data] true _ false
    row_holds (fun _ h => by cases h) (by kernel_rfl) (fun _ h => by cases h) timecodeTextMatchesReference_row_tie rfl ⟨rfl, rfl⟩ (by kernel_rfl) rfl
    (fun f fn hf hfn => by
      obtain rfl : f = 4 := Option.some.inj ((show Tryd.prog.funcNamed "onair/onairlaw03.TimecodeTextMatchesReference" = some 4 by kernel_rfl).symm.trans hf) |>.symm
      obtain rfl : fn = Tryd.f4 := (Option.some.inj (Tryd.func4.symm.trans hfn)).symm
      exact ⟨by kernel_rfl, fun j t ht => standIns_of (by kernel_rfl) ht⟩)
    (by kernel_rfl)

end TX
end Go.Proofs.YtfpmmfoinjcclaaDoor
