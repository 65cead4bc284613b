/- The law LowTurn holds for all arguments: the call returns true, and what the arguments refer to reads afterwards as it read before. No conditions. -/
import Derived.Test.YtdiaglaokgehbaaRows
import Derived.Test.YtdiaglaokgehbaaFrame
import Derived.Test.YtdiaglaokgehbaaFrameL
import Derived.Test.YtdiaglaokgehbaaLwLowTurn
import Derived.SizedLaws
namespace Go.Proofs.Ytdiaglaokgehbaa.pfLowTurn
open Go.ChangeShapes Go.WideShapes Go.ChangeAt Go.RowKit

theorem own : ownKnob Try.prog.godebug = none := by kernel_rfl
theorem laidOut : laidOutB Try.prog = true := by kernel_rfl
theorem cellsLb : Try.prog.cellsOf 40 = 2 := by kernel_rfl
theorem cellsDd : Try.prog.cellsOf 62 = 6 := by kernel_rfl

set_option linter.unusedVariables false in
set_option maxRecDepth 100000 in
theorem lifted (os : Os) (started : os.Started) (H : Type) (enc : TypeId × Value → H) :
    ReturnsInHanded {} Try.checked os 7 .any (Rows.lowTurnSpec.pre6 enc Try.prog Try.f7 Rows.lowTurnRow.domain false) (Rows.lowTurnSpec.post enc Try.prog Try.f7 false true false false) := by
  refine returnsInHanded_of_change_sized (C := Try.checked) own started (by kernel_rfl) Try.func7
    (ChangeSpec.witness6 (enc := enc) (C := Try.checked) false ⟨#[], #[.slice none 0 0, .slice none 0 0, .slice none 0 0], []⟩ 8 (by kernel_rfl) (by kernel_rfl) (by kernel_rfl) (by kernel_rfl)) ?_
  intro W base args ds gs before hval0 hW hcnd hsz0 _
  have hsz : (DataW.weightsEach Try.prog (Try.f7.params.toList ++ Rows.lowTurnSpec.plain.varTypes Try.prog) (ds ++ gs)).all (· ≤ reachBytes) = true := hsz0
  have hval : ∀ (j : Nat) t v, Try.f7.params[j]? = some t → args[j]? = some v → Value.okWide Try.prog W .any base t v := hval0
  have hW' := hW
  obtain ⟨p, q, hA0, hV, rfl, hfz, hnd⟩ := hW
  have hA : DataW.TrodAll enc Try.prog W 0 (fun _ => true) true Try.f7.params.toList args.toList ds p := hA0
  rw [Try.params7] at hA hval hsz
  obtain ⟨v0, vs0, d0, ds0, p0, q0, hargs, rfl, rfl, h0, r0⟩ := trodAll_cons hA
  obtain ⟨v1, vs1, d1, ds1, p1, q1, rfl, rfl, rfl, h1, r1⟩ := trodAll_cons r0
  obtain ⟨v2, vs2, d2, ds2, p2, q2, rfl, rfl, rfl, h2, r2⟩ := trodAll_cons r1
  obtain ⟨rfl, rfl, rfl⟩ := trodAll_nil r2
  obtain rfl : args = #[v0, v1, v2] := by cases args; simp_all
  obtain ⟨rfl, rfl⟩ := trodVars_none hV
  obtain ⟨A0, len0, cap0, rfl⟩ := okWide_slice Try.underlying22 (hval 0 22 v0 rfl rfl)
  have k0 := h0
  have lt0 : ∀ x ∈ p0, x.block < W.heap.size := by obtain ⟨m, hm⟩ := k0; exact DataW.trod_lt m _ _ _ hm
  have hcap0 : len0 ≤ cap0 := by obtain ⟨fuel, hf⟩ := h0; exact open_cap Try.underlying22 hf
  obtain ⟨l0, hlen0, hmax0, h320, hrow0⟩ : ∃ l : List Lab, l.length = len0 ∧ len0 ≤ maxLen ∧ L32 l ∧ Row W A0 (labsC l) := by
    obtain ⟨fuel, hf⟩ := h0
    exact open_labs Try.underlying22 Try.underlying40 Try.underlying3 Try.underlying38 ⟨by kernel_rfl, by kernel_rfl⟩ ⟨by kernel_rfl, by kernel_rfl⟩ cellsLb hf
  have hs0 : len0 * 16 ≤ 140737488355328 := by
    obtain ⟨fuel, hf⟩ := h0
    exact labs_sized Try.underlying22 (by kernel_rfl) hf (fun e s hd => sized_slice hsz (j := 0) rfl (by rw [hd]; rfl) Try.underlying22)
  subst hlen0
  obtain ⟨A1, len1, cap1, rfl⟩ := okWide_slice Try.underlying22 (hval 1 22 v1 rfl rfl)
  have k1 := h1
  have lt1 : ∀ x ∈ p1, x.block < W.heap.size := by obtain ⟨m, hm⟩ := k1; exact DataW.trod_lt m _ _ _ hm
  have hcap1 : len1 ≤ cap1 := by obtain ⟨fuel, hf⟩ := h1; exact open_cap Try.underlying22 hf
  obtain ⟨l1, hlen1, hmax1, h321, hrow1⟩ : ∃ l : List Lab, l.length = len1 ∧ len1 ≤ maxLen ∧ L32 l ∧ Row W A1 (labsC l) := by
    obtain ⟨fuel, hf⟩ := h1
    exact open_labs Try.underlying22 Try.underlying40 Try.underlying3 Try.underlying38 ⟨by kernel_rfl, by kernel_rfl⟩ ⟨by kernel_rfl, by kernel_rfl⟩ cellsLb hf
  subst hlen1
  obtain ⟨A2, len2, cap2, rfl⟩ := okWide_slice Try.underlying23 (hval 2 23 v2 rfl rfl)
  have k2 := h2
  have lt2 : ∀ x ∈ p2, x.block < W.heap.size := by obtain ⟨m, hm⟩ := k2; exact DataW.trod_lt m _ _ _ hm
  have hcap2 : len2 ≤ cap2 := by obtain ⟨fuel, hf⟩ := h2; exact open_cap Try.underlying23 hf
  obtain ⟨l2, hlen2, hmax2, hrow2⟩ : ∃ l : List Dd, l.length = len2 ∧ len2 ≤ maxLen ∧ Row W A2 (deedsC l) := by
    obtain ⟨fuel, hf⟩ := h2
    exact open_deeds Try.underlying23 Try.underlying62 rfl Try.underlying40 Try.underlying3 Try.underlying3 Try.underlying3 Try.underlying3 Try.underlying3 Try.underlying38 ⟨by kernel_rfl, by kernel_rfl⟩ ⟨by kernel_rfl, by kernel_rfl⟩ ⟨by kernel_rfl, by kernel_rfl⟩ ⟨by kernel_rfl, by kernel_rfl⟩ ⟨by kernel_rfl, by kernel_rfl⟩ ⟨by kernel_rfl, by kernel_rfl⟩ ⟨by kernel_rfl, by kernel_rfl⟩ cellsDd hf
  subst hlen2
  clear hA0 hval0
  refine (LowTurn_walk l0 A0 cap0 l1 A1 cap1 l2 A2 cap2 W hs0 hmax0 hcap0 h320 hrow0 hmax1 hcap1 h321 hrow1 hmax2 hcap2 hrow2 trivial).mono fun e W' ⟨he, bel⟩ => ?_
  subst he
  exact ⟨_, rfl, _, _, _, [], _, [], hW', trodAll_mk1 (shut_bool Try.underlying4 _), (trodAll_cons_mk (Below.trod laidOut (by kernel_rfl) (of_decide_eq_true (by kernel_rfl)) k0 bel lt0) (trodAll_cons_mk (Below.trod laidOut (by kernel_rfl) (of_decide_eq_true (by kernel_rfl)) k1 bel lt1) (trodAll_cons_mk (Below.trod laidOut (by kernel_rfl) (of_decide_eq_true (by kernel_rfl)) k2 bel lt2) trodAll_mk0))), rfl, bel.frame _, fun h => by cases h⟩

theorem over : Rows.lowTurnRow.holds Try.pinned (OpenSpec.ofChange Rows.lowTurnSpec) :=
  OpenClaim.holds_of_wide 7 Try.f7 rfl rfl rfl rfl rfl rfl rfl ⟨rfl, rfl, rfl, rfl, rfl⟩ rfl rfl rfl rfl rfl (by kernel_rfl) Try.func7 (by kernel_rfl)
    (of_decide_eq_true (by kernel_rfl)) (by unfold Func.isWrapper; first | (rw [if_pos (by decide +kernel)]; kernel_rfl) | (rw [if_neg (by decide +kernel)]; exact ⟨rfl, rfl⟩))
    (fun os started H enc _ => lifted os started H enc)

end Go.Proofs.Ytdiaglaokgehbaa.pfLowTurn

namespace Go.Proofs.Ytdiaglaokgehbaa
theorem lowTurn_holds : Rows.LowTurnSaid := pfLowTurn.over
end Go.Proofs.Ytdiaglaokgehbaa
