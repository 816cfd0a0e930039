/- PermitFill returns true for every plan and every four integers. Conditions: those of the given row and card, no others. -/
import Derived.Test.YtfannkpnmaeljaaGreatDoorGPmT6
import Derived.Test.YtfannkpnmaeljaaGreatDoorGPmT5
import Derived.Test.YtfannkpnmaeljaaGreatDoorGTc2
import Derived.Test.YtfannkpnmaeljaaGreatDoorLawKit
import Derived.Test.YtfannkpnmaeljaaGreatDoorTie
import Derived.Test.YtfannkpnmaeljaaGreatDoorCards
import Derived.ProofKit
set_option linter.unusedVariables false
set_option linter.unusedSimpArgs false
namespace Go.Proofs.YtfannkpnmaeljaaGreatDoor
open Go.ChangeShapes Go.WideShapes Go.ChangeAt Go.WideMaps Go.WideElems Go.RowKit Go.ChangeMaps

namespace FL
theorem spec : LawSpec 5 Rows.permitFillSpec := ⟨rfl, fun H ds h => by
  match ds, h with
  | [_, _, _, _, _], _ => exact ⟨rfl, rfl, rfl⟩⟩

set_option maxRecDepth 100000 in
theorem lifted (os : Os) (started : os.Started) (H : Type) (enc : TypeId × Value → H) :
    ReturnsInHanded {} Tryz.checked os 9 .any (fun w args => (Rows.permitFillSpec.pre enc Tryz.prog Tryz.f9 [] false w args ∧ laidMetH Tryz.prog Tc.laidFmt w) ∧ sizedMet enc Tryz.prog Tryz.f9 (OpenSpec.ofChange Rows.permitFillSpec) false w args)
      (Rows.permitFillSpec.post enc Tryz.prog Tryz.f9 false true false false) := by
  refine law_lifted (C := Tryz.checked) own laidOut os started H enc (by kernel_rfl) Tryz.func9 Tryz.underlying4 rfl spec (by kernel_rfl)
    (ChangeSpec.witness_shaped (enc := enc) (C := Tryz.checked) (os := os) (X := fun w _ => laidMetH Tryz.prog Tc.laidFmt w) false (World.doorLaid Tryz.prog 400 os) #[.agg #[.int .i64 0, .int .i64 0, .int .i64 0, .int .i64 0, .slice none 0 0, .int .i64 0, .int .i64 0, .int .i64 0, .int .i64 0, .slice none 0 0, .slice none 0 0, .slice none 0 0, .slice none 0 0], .int .i64 0, .int .i64 0, .int .i64 0, .int .i64 0] 8 rfl (World.shaped_of_RefB (by kernel_rfl) (by kernel_rfl)) (by kernel_rfl) (by kernel_rfl) (by kernel_rfl) (Tc.door_met os _)) ?_
  intro W base args ds before hval0 hA0 hlt hwt0 hL
  have hval : ∀ (j : Nat) t v, Tryz.f9.params[j]? = some t → args[j]? = some v → Value.okWide Tryz.prog W .any base t v := hval0
  have hA : DataW.TrodAll enc Tryz.prog W 0 (fun _ => true) true Tryz.f9.params.toList args.toList ds before := hA0
  have hwt : (DataW.weightsEach Tryz.prog (Tryz.f9.params.toList ++ Rows.permitFillSpec.plain.varTypes Tryz.prog) (ds ++ [])).all (· ≤ reachBytes) = true := hwt0
  obtain hF := Tc.fmt_of_laid hL
  clear hval0 hA0 hwt0
  rw [Tryz.params9] at hA hval hwt
  obtain ⟨l, hl, rfl⟩ : ∃ l : List Value, args.toList = l ∧ args = l.toArray := ⟨args.toList, rfl, by simp⟩
  rw [hl] at hA
  obtain ⟨v0, l0, d0, e0, p0, q0, rfl, rfl, rfl, t0, hA⟩ := trodAll_cons hA
  obtain ⟨v1, l1, d1, e1, p1, q1, rfl, rfl, rfl, t1, hA⟩ := trodAll_cons hA
  obtain ⟨v2, l2, d2, e2, p2, q2, rfl, rfl, rfl, t2, hA⟩ := trodAll_cons hA
  obtain ⟨v3, l3, d3, e3, p3, q3, rfl, rfl, rfl, t3, hA⟩ := trodAll_cons hA
  obtain ⟨v4, l4, d4, e4, p4, q4, rfl, rfl, rfl, t4, hA⟩ := trodAll_cons hA
  obtain ⟨rfl, rfl, rfl⟩ := trodAll_nil hA
  clear hl
  obtain ⟨P, qP, rfl, hP⟩ := open_plan (hval 0 32 v0 rfl rfl) t0
  obtain ⟨a, rfl, rfl, rfl, wa⟩ := open_int Tryz.underlying3 (hval 1 3 v1 rfl rfl) t1
  have ha := wf64 wa
  obtain ⟨b, rfl, rfl, rfl, wb⟩ := open_int Tryz.underlying3 (hval 2 3 v2 rfl rfl) t2
  have hb := wf64 wb
  obtain ⟨r, rfl, rfl, rfl, wr⟩ := open_int Tryz.underlying3 (hval 3 3 v3 rfl rfl) t3
  have hr := wf64 wr
  obtain ⟨f, rfl, rfl, rfl, wf⟩ := open_int Tryz.underlying3 (hval 4 3 v4 rfl rfl) t4
  have hf := wf64 wf
  exact fill_law P qP a b r f W hP hF ha hb hr hf

theorem row_holds : Rows.PermitFillSaid :=
  OpenClaim.holds_of_wide 9 Tryz.f9 rfl rfl rfl rfl rfl rfl rfl ⟨rfl, rfl, rfl, rfl, rfl⟩ rfl rfl rfl rfl rfl (by kernel_rfl) Tryz.func9 (by kernel_rfl)
    (of_decide_eq_true (by kernel_rfl)) (by unfold Func.isWrapper; first | (rw [if_pos (by decide +kernel)]; kernel_rfl) | (rw [if_neg (by decide +kernel)]; exact ⟨rfl, rfl⟩))
    (fun os started H enc _ => lifted os started H enc)

theorem card_holds : Rows.PermitFillCardSaid :=
  Claim7.holds_tied_plain_at .later [] [.data] true _ false
    row_holds (fun _ h => by cases h) (by kernel_rfl) (fun _ h => by cases h) permitFill_row_tie rfl ⟨rfl, rfl⟩ (by kernel_rfl) rfl
    (fun f fn hf hfn => by
      obtain rfl : f = 9 := Option.some.inj ((show Tryz.prog.funcNamed "onair/onairlaw07.PermitFill" = some 9 by kernel_rfl).symm.trans hf) |>.symm
      obtain rfl : fn = Tryz.f9 := (Option.some.inj (Tryz.func9.symm.trans hfn)).symm
      exact ⟨by kernel_rfl, fun j t ht => standIns_of (by kernel_rfl) ht⟩)
    (by kernel_rfl)

end FL
end Go.Proofs.YtfannkpnmaeljaaGreatDoor
