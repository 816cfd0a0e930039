/- PermitCatchup returns true for every plan and every airing. Conditions: those of the given row and card, no others. -/
import Derived.Test.YtfannkpnmaeljaaGreatDoorGPmT5
import Derived.Test.YtfannkpnmaeljaaGreatDoorGTc2
import Derived.Test.YtfannkpnmaeljaaGreatDoorLawKit
import Derived.Test.YtfannkpnmaeljaaGreatDoorTie
import Derived.Test.YtfannkpnmaeljaaGreatDoorCards
import Derived.ProofKit
set_option linter.unusedVariables false
set_option linter.unusedSimpArgs false
namespace Go.Proofs.YtfannkpnmaeljaaGreatDoor
open Go.ChangeShapes Go.WideShapes Go.ChangeAt Go.WideMaps Go.WideElems Go.RowKit Go.ChangeMaps

namespace CT
theorem spec : LawSpec 2 Rows.permitCatchupSpec := ⟨rfl, fun H ds h => by
  match ds, h with
  | [_, _], _ => exact ⟨rfl, rfl, rfl⟩⟩

set_option maxRecDepth 100000 in
theorem lifted (os : Os) (started : os.Started) (H : Type) (enc : TypeId × Value → H) :
    ReturnsInHanded {} Tryz.checked os 4 .any (fun w args => (Rows.permitCatchupSpec.pre enc Tryz.prog Tryz.f4 [] false w args ∧ laidMetH Tryz.prog Tc.laidFmt w) ∧ sizedMet enc Tryz.prog Tryz.f4 (OpenSpec.ofChange Rows.permitCatchupSpec) false w args)
      (Rows.permitCatchupSpec.post enc Tryz.prog Tryz.f4 false true false false) := by
  refine law_lifted (C := Tryz.checked) own laidOut os started H enc (by kernel_rfl) Tryz.func4 Tryz.underlying4 rfl spec (by kernel_rfl)
    (ChangeSpec.witness_shaped (enc := enc) (C := Tryz.checked) (os := os) (X := fun w _ => laidMetH Tryz.prog Tc.laidFmt w) false (World.doorLaid Tryz.prog 400 os) #[.agg #[.int .i64 0, .int .i64 0, .int .i64 0, .int .i64 0, .slice none 0 0, .int .i64 0, .int .i64 0, .int .i64 0, .int .i64 0, .slice none 0 0, .slice none 0 0, .slice none 0 0, .slice none 0 0], .agg #[.int .i64 0, .int .i64 0, .int .i64 0, .int .i64 0]] 8 rfl (World.shaped_of_RefB (by kernel_rfl) (by kernel_rfl)) (by kernel_rfl) (by kernel_rfl) (by kernel_rfl) (Tc.door_met os _)) ?_
  intro W base args ds before hval0 hA0 hlt hwt0 hL
  have hval : ∀ (j : Nat) t v, Tryz.f4.params[j]? = some t → args[j]? = some v → Value.okWide Tryz.prog W .any base t v := hval0
  have hA : DataW.TrodAll enc Tryz.prog W 0 (fun _ => true) true Tryz.f4.params.toList args.toList ds before := hA0
  have hwt : (DataW.weightsEach Tryz.prog (Tryz.f4.params.toList ++ Rows.permitCatchupSpec.plain.varTypes Tryz.prog) (ds ++ [])).all (· ≤ reachBytes) = true := hwt0
  obtain hF := Tc.fmt_of_laid hL
  clear hval0 hA0 hwt0
  rw [Tryz.params4] at hA hval hwt
  obtain ⟨v0, v1, d0, d1, p0, p1, rfl, rfl, rfl, t0, t1⟩ := trodAll_two hA
  obtain ⟨P, qP, rfl, hP⟩ := open_plan (hval 0 32 v0 rfl rfl) t0
  obtain ⟨a, b, c, e, rfl, wa, wb, wc, we⟩ := open_aired (hval 1 46 v1 rfl rfl) t1
  exact catchup_law P qP a b c e W hP hF wa wb wc we

theorem row_holds : Rows.PermitCatchupSaid :=
  OpenClaim.holds_of_wide 4 Tryz.f4 rfl rfl rfl rfl rfl rfl rfl ⟨rfl, rfl, rfl, rfl, rfl⟩ rfl rfl rfl rfl rfl (by kernel_rfl) Tryz.func4 (by kernel_rfl)
    (of_decide_eq_true (by kernel_rfl)) (by unfold Func.isWrapper; first | (rw [if_pos (by decide +kernel)]; kernel_rfl) | (rw [if_neg (by decide +kernel)]; exact ⟨rfl, rfl⟩))
    (fun os started H enc _ => lifted os started H enc)

theorem card_holds : Rows.PermitCatchupCardSaid :=
  Claim7.holds_tied_plain_at .later [] [.data] true _ false
    row_holds (fun _ h => by cases h) (by kernel_rfl) (fun _ h => by cases h) permitCatchup_row_tie rfl ⟨rfl, rfl⟩ (by kernel_rfl) rfl
    (fun f fn hf hfn => by
      obtain rfl : f = 4 := Option.some.inj ((show Tryz.prog.funcNamed "onair/onairlaw07.PermitCatchup" = some 4 by kernel_rfl).symm.trans hf) |>.symm
      obtain rfl : fn = Tryz.f4 := (Option.some.inj (Tryz.func4.symm.trans hfn)).symm
      exact ⟨by kernel_rfl, fun j t ht => standIns_of (by kernel_rfl) ht⟩)
    (by kernel_rfl)

end CT
end Go.Proofs.YtfannkpnmaeljaaGreatDoor
