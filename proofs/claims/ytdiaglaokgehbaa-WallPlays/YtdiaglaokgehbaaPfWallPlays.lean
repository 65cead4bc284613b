/- The law WallPlays holds for all arguments: the call returns true, and what the arguments refer to reads afterwards as it read before. No conditions. -/
import Derived.Test.YtdiaglaokgehbaaRows
import Derived.Test.YtdiaglaokgehbaaFrame
import Derived.Test.YtdiaglaokgehbaaFrameL
import Derived.Test.YtdiaglaokgehbaaFrameI
import Derived.Test.YtdiaglaokgehbaaLwWallPlays
namespace Go.Proofs.Ytdiaglaokgehbaa.pfWallPlays
open Go.ChangeShapes Go.WideShapes Go.ChangeAt Go.RowKit

theorem own : ownKnob Try.prog.godebug = none := by kernel_rfl
theorem laidOut : laidOutB Try.prog = true := by kernel_rfl
theorem cellsIn : Try.prog.cellsOf 3 = 1 := by kernel_rfl
theorem cellsDd : Try.prog.cellsOf 62 = 6 := by kernel_rfl

set_option linter.unusedVariables false in
set_option maxRecDepth 100000 in
theorem lifted (os : Os) (started : os.Started) (H : Type) (enc : TypeId × Value → H) :
    ReturnsInHanded {} Try.checked os 9 .any (Rows.wallPlaysSpec.pre6 enc Try.prog Try.f9 Rows.wallPlaysRow.domain false) (Rows.wallPlaysSpec.post enc Try.prog Try.f9 false true false false) := by
  refine returnsInHanded_of_change (C := Try.checked) own started (by kernel_rfl) Try.func9
    (ChangeSpec.witness6 (enc := enc) (C := Try.checked) false ⟨#[], #[.int .i64 0, .slice none 0 0, .slice none 0 0, .slice none 0 0], []⟩ 8 (by kernel_rfl) (by kernel_rfl) (by kernel_rfl) (by kernel_rfl)) ?_
  intro W base args ds gs before hval0 hW hcnd _
  have hval : ∀ (j : Nat) t v, Try.f9.params[j]? = some t → args[j]? = some v → Value.okWide Try.prog W .any base t v := hval0
  have hW' := hW
  obtain ⟨p, q, hA0, hV, rfl, hfz, hnd⟩ := hW
  have hA : DataW.TrodAll enc Try.prog W 0 (fun _ => true) true Try.f9.params.toList args.toList ds p := hA0
  rw [Try.params9] at hA hval
  obtain ⟨v0, vs0, d0, ds0, p0, q0, hargs, rfl, rfl, h0, r0⟩ := trodAll_cons hA
  obtain ⟨v1, vs1, d1, ds1, p1, q1, rfl, rfl, rfl, h1, r1⟩ := trodAll_cons r0
  obtain ⟨v2, vs2, d2, ds2, p2, q2, rfl, rfl, rfl, h2, r2⟩ := trodAll_cons r1
  obtain ⟨v3, vs3, d3, ds3, p3, q3, rfl, rfl, rfl, h3, r3⟩ := trodAll_cons r2
  obtain ⟨rfl, rfl, rfl⟩ := trodAll_nil r3
  obtain rfl : args = #[v0, v1, v2, v3] := by cases args; simp_all
  obtain ⟨rfl, rfl⟩ := trodVars_none hV
  obtain ⟨a0, rfl, rfl, rfl, w0⟩ := open_int Try.underlying3 (hval 0 3 v0 rfl rfl) h0
  obtain ⟨A1, len1, cap1, rfl⟩ := okWide_slice Try.underlying47 (hval 1 47 v1 rfl rfl)
  have k1 := h1
  have lt1 : ∀ x ∈ p1, x.block < W.heap.size := by obtain ⟨m, hm⟩ := k1; exact DataW.trod_lt m _ _ _ hm
  have hcap1 : len1 ≤ cap1 := by obtain ⟨fuel, hf⟩ := h1; exact open_cap Try.underlying47 hf
  obtain ⟨l1, hlen1, hmax1, h641, hrow1⟩ : ∃ l : List Int, l.length = len1 ∧ len1 ≤ maxLen ∧ (∀ x ∈ l, (Lit.int .i64 x).wf = true) ∧ Row W A1 (ints l) := by
    obtain ⟨fuel, hf⟩ := h1
    exact open_ints' Try.underlying47 Try.underlying3 cellsIn hf
  subst hlen1
  obtain ⟨A2, len2, cap2, rfl⟩ := okWide_slice Try.underlying47 (hval 2 47 v2 rfl rfl)
  have k2 := h2
  have lt2 : ∀ x ∈ p2, x.block < W.heap.size := by obtain ⟨m, hm⟩ := k2; exact DataW.trod_lt m _ _ _ hm
  have hcap2 : len2 ≤ cap2 := by obtain ⟨fuel, hf⟩ := h2; exact open_cap Try.underlying47 hf
  obtain ⟨l2, hlen2, hmax2, h642, hrow2⟩ : ∃ l : List Int, l.length = len2 ∧ len2 ≤ maxLen ∧ (∀ x ∈ l, (Lit.int .i64 x).wf = true) ∧ Row W A2 (ints l) := by
    obtain ⟨fuel, hf⟩ := h2
    exact open_ints' Try.underlying47 Try.underlying3 cellsIn hf
  subst hlen2
  obtain ⟨A3, len3, cap3, rfl⟩ := okWide_slice Try.underlying23 (hval 3 23 v3 rfl rfl)
  have k3 := h3
  have lt3 : ∀ x ∈ p3, x.block < W.heap.size := by obtain ⟨m, hm⟩ := k3; exact DataW.trod_lt m _ _ _ hm
  have hcap3 : len3 ≤ cap3 := by obtain ⟨fuel, hf⟩ := h3; exact open_cap Try.underlying23 hf
  obtain ⟨l3, hlen3, hmax3, hrow3⟩ : ∃ l : List Dd, l.length = len3 ∧ len3 ≤ maxLen ∧ Row W A3 (deedsC l) := by
    obtain ⟨fuel, hf⟩ := h3
    exact open_deeds Try.underlying23 Try.underlying62 rfl Try.underlying40 Try.underlying3 Try.underlying3 Try.underlying3 Try.underlying3 Try.underlying3 Try.underlying38 ⟨by kernel_rfl, by kernel_rfl⟩ ⟨by kernel_rfl, by kernel_rfl⟩ ⟨by kernel_rfl, by kernel_rfl⟩ ⟨by kernel_rfl, by kernel_rfl⟩ ⟨by kernel_rfl, by kernel_rfl⟩ ⟨by kernel_rfl, by kernel_rfl⟩ ⟨by kernel_rfl, by kernel_rfl⟩ cellsDd hf
  subst hlen3
  clear hA0 hval0
  refine (WallPlays_walk a0 l1 A1 cap1 l2 A2 cap2 l3 A3 cap3 W hmax1 hcap1 hrow1 hmax2 hcap2 hrow2 hmax3 hcap3 hrow3 trivial).mono fun e W' ⟨he, bel⟩ => ?_
  subst he
  exact ⟨_, rfl, _, _, _, [], _, [], hW', trodAll_mk1 (shut_bool Try.underlying4 _), (trodAll_cons_mk (shut_int Try.underlying3 w0) (trodAll_cons_mk (Below.trod laidOut (by kernel_rfl) (of_decide_eq_true (by kernel_rfl)) k1 bel lt1) (trodAll_cons_mk (Below.trod laidOut (by kernel_rfl) (of_decide_eq_true (by kernel_rfl)) k2 bel lt2) (trodAll_cons_mk (Below.trod laidOut (by kernel_rfl) (of_decide_eq_true (by kernel_rfl)) k3 bel lt3) trodAll_mk0)))), rfl, bel.frame _, fun h => by cases h⟩

theorem over : Rows.wallPlaysRow.holds Try.pinned (OpenSpec.ofChange Rows.wallPlaysSpec) :=
  OpenClaim.holds_of_wide 9 Try.f9 rfl rfl rfl rfl rfl rfl rfl ⟨rfl, rfl, rfl, rfl, rfl⟩ rfl rfl rfl rfl rfl (by kernel_rfl) Try.func9 (by kernel_rfl)
    (of_decide_eq_true (by kernel_rfl)) (by unfold Func.isWrapper; first | (rw [if_pos (by decide +kernel)]; kernel_rfl) | (rw [if_neg (by decide +kernel)]; exact ⟨rfl, rfl⟩))
    (fun os started H enc _ => lifted os started H enc)

end Go.Proofs.Ytdiaglaokgehbaa.pfWallPlays

namespace Go.Proofs.Ytdiaglaokgehbaa
theorem wallPlays_holds : Rows.WallPlaysSaid := pfWallPlays.over
end Go.Proofs.Ytdiaglaokgehbaa
