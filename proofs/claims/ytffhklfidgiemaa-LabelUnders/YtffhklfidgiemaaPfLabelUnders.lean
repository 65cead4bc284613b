/- The law LabelUnders holds for all arguments: the call returns true, and what the arguments refer to reads afterwards as it read before. No conditions. -/
import Derived.Test.YtffhklfidgiemaaRows
import Derived.Test.YtffhklfidgiemaaFrame
import Derived.Lib.SmallJoins
import Derived.Test.YtffhklfidgiemaaLwLabelUnders
namespace Go.Proofs.Ytffhklfidgiemaa.pfLabelUnders
open Go.ChangeShapes Go.WideShapes Go.ChangeAt Go.RowKit

theorem own : ownKnob Try.prog.godebug = none := by kernel_rfl
theorem laidOut : laidOutB Try.prog = true := by kernel_rfl
theorem cellsLb : Try.prog.cellsOf 24 = 2 := by kernel_rfl

set_option linter.unusedVariables false in
set_option maxRecDepth 100000 in
theorem lifted (os : Os) (started : os.Started) (H : Type) (enc : TypeId × Value → H) :
    ReturnsInHanded {} Try.checked os 4 .any (Rows.labelUndersSpec.pre6 enc Try.prog Try.f4 Rows.labelUndersRow.domain false) (Rows.labelUndersSpec.post enc Try.prog Try.f4 false true false false) := by
  refine returnsInHanded_of_change (C := Try.checked) own started (by kernel_rfl) Try.func4
    (ChangeSpec.witness6 (enc := enc) (C := Try.checked) false ⟨#[], #[.agg #[.int .i64 0, .int .u32 0], .agg #[.int .i64 0, .int .u32 0]], []⟩ 8 (by kernel_rfl) (by kernel_rfl) (by kernel_rfl) (by kernel_rfl)) ?_
  intro W base args ds gs before hval0 hW hcnd _
  have hval : ∀ (j : Nat) t v, Try.f4.params[j]? = some t → args[j]? = some v → Value.okWide Try.prog W .any base t v := hval0
  have hW' := hW
  obtain ⟨p, q, hA0, hV, rfl, hfz, hnd⟩ := hW
  have hA : DataW.TrodAll enc Try.prog W 0 (fun _ => true) true Try.f4.params.toList args.toList ds p := hA0
  rw [Try.params4] at hA hval
  obtain ⟨v0, vs0, d0, ds0, p0, q0, hargs, rfl, rfl, h0, r0⟩ := trodAll_cons hA
  obtain ⟨v1, vs1, d1, ds1, p1, q1, rfl, rfl, rfl, h1, r1⟩ := trodAll_cons r0
  obtain ⟨rfl, rfl, rfl⟩ := trodAll_nil r1
  obtain rfl : args = #[v0, v1] := by cases args; simp_all
  obtain ⟨rfl, rfl⟩ := trodVars_none hV
  obtain ⟨x0, z0, y0, yy0, n0, rfl, rfl, rfl, t0, tt0⟩ := Go.Joins.open_agg2 Try.underlying24 (by kernel_rfl) cellsLb (hval 0 24 v0 rfl rfl) h0
  obtain ⟨i0, e0, rfl, w0⟩ := DataW.trod_int Try.underlying3 t0
  obtain ⟨ii0, ee0, rfl, ww0⟩ := DataW.trod_int Try.underlying22 tt0
  obtain rfl : x0 = .int .i64 i0 := by simpa using e0
  obtain rfl : z0 = .int .u32 ii0 := by simpa using ee0
  obtain ⟨bb0, cc0⟩ := bounds_u32 ww0
  obtain ⟨ss0, rfl⟩ := Int.eq_ofNat_of_zero_le bb0
  obtain ⟨x1, z1, y1, yy1, n1, rfl, rfl, rfl, t1, tt1⟩ := Go.Joins.open_agg2 Try.underlying24 (by kernel_rfl) cellsLb (hval 1 24 v1 rfl rfl) h1
  obtain ⟨i1, e1, rfl, w1⟩ := DataW.trod_int Try.underlying3 t1
  obtain ⟨ii1, ee1, rfl, ww1⟩ := DataW.trod_int Try.underlying22 tt1
  obtain rfl : x1 = .int .i64 i1 := by simpa using e1
  obtain rfl : z1 = .int .u32 ii1 := by simpa using ee1
  obtain ⟨bb1, cc1⟩ := bounds_u32 ww1
  obtain ⟨ss1, rfl⟩ := Int.eq_ofNat_of_zero_le bb1
  clear hA0 hval0
  refine (LabelUnders_walk i0 ss0 i1 ss1 W (by omega) (by omega) trivial).mono fun e W' ⟨he, bel⟩ => ?_
  subst he
  exact ⟨_, rfl, _, _, _, [], _, [], hW', trodAll_mk1 (shut_bool Try.underlying4 _), (trodAll_cons_mk (Go.Joins.shut_agg2 Try.underlying24 (by kernel_rfl) cellsLb ⟨1, trod_int_mk 0 Try.underlying3 w0⟩ ⟨1, trod_int_mk 0 Try.underlying22 ww0⟩) (trodAll_cons_mk (Go.Joins.shut_agg2 Try.underlying24 (by kernel_rfl) cellsLb ⟨1, trod_int_mk 0 Try.underlying3 w1⟩ ⟨1, trod_int_mk 0 Try.underlying22 ww1⟩) trodAll_mk0)), rfl, bel.frame _, fun h => by cases h⟩

theorem over : Rows.labelUndersRow.holds Try.pinned (OpenSpec.ofChange Rows.labelUndersSpec) :=
  OpenClaim.holds_of_wide 4 Try.f4 rfl rfl rfl rfl rfl rfl rfl ⟨rfl, rfl, rfl, rfl, rfl⟩ rfl rfl rfl rfl rfl (by kernel_rfl) Try.func4 (by kernel_rfl)
    (of_decide_eq_true (by kernel_rfl)) (by unfold Func.isWrapper; first | (rw [if_pos (by decide +kernel)]; kernel_rfl) | (rw [if_neg (by decide +kernel)]; exact ⟨rfl, rfl⟩))
    (fun os started H enc _ => lifted os started H enc)

end Go.Proofs.Ytffhklfidgiemaa.pfLabelUnders

namespace Go.Proofs.Ytffhklfidgiemaa
theorem labelUnders_holds : Rows.LabelUndersSaid := pfLabelUnders.over
end Go.Proofs.Ytffhklfidgiemaa
