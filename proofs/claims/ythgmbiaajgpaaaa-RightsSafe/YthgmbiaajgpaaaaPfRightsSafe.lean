/- The law RightsSafe holds for all arguments: the call returns true, and what the arguments refer to reads afterwards as it read before. No conditions. -/
import Derived.Test.YthgmbiaajgpaaaaRows
import Derived.Test.YthgmbiaajgpaaaaFrame
import Derived.Test.YthgmbiaajgpaaaaFrameRt
import Derived.Test.YthgmbiaajgpaaaaLwRightsSafe
namespace Go.Proofs.Ythgmbiaajgpaaaa.pfRightsSafe
open Go.ChangeShapes Go.WideShapes Go.ChangeAt Go.RowKit

theorem own : ownKnob Try.prog.godebug = none := by kernel_rfl
theorem laidOut : laidOutB Try.prog = true := by kernel_rfl
theorem cellsMx : Try.prog.cellsOf 38 = 1 := by kernel_rfl
theorem cellsCh : Try.prog.cellsOf 44 = 3 := by kernel_rfl
theorem cellsW : Try.prog.cellsOf 33 = 1 := by kernel_rfl

set_option linter.unusedVariables false in
set_option maxRecDepth 100000 in
theorem lifted (os : Os) (started : os.Started) (H : Type) (enc : TypeId × Value → H) :
    ReturnsInHanded {} Try.checked os 7 .any (Rows.rightsSafeSpec.pre6 enc Try.prog Try.f7 Rows.rightsSafeRow.domain false) (Rows.rightsSafeSpec.post enc Try.prog Try.f7 false true false false) := by
  refine returnsInHanded_of_change (C := Try.checked) own started (by kernel_rfl) Try.func7
    (ChangeSpec.witness6 (enc := enc) (C := Try.checked) false ⟨#[], #[.int .i64 0, .slice none 0 0, .slice none 0 0, .int .i64 0, .int .i64 0, .int .u32 0], []⟩ 8 (by kernel_rfl) (by kernel_rfl) (by kernel_rfl) (by kernel_rfl)) ?_
  intro W base args ds gs before hval0 hW hcnd _
  have hval : ∀ (j : Nat) t v, Try.f7.params[j]? = some t → args[j]? = some v → Value.okWide Try.prog W .any base t v := hval0
  have hW' := hW
  obtain ⟨p, q, hA0, hV, rfl, hfz, hnd⟩ := hW
  have hA : DataW.TrodAll enc Try.prog W 0 (fun _ => true) true Try.f7.params.toList args.toList ds p := hA0
  rw [Try.params7] at hA hval
  obtain ⟨v0, vs0, d0, ds0, p0, q0, hargs, rfl, rfl, h0, r0⟩ := trodAll_cons hA
  obtain ⟨v1, vs1, d1, ds1, p1, q1, rfl, rfl, rfl, h1, r1⟩ := trodAll_cons r0
  obtain ⟨v2, vs2, d2, ds2, p2, q2, rfl, rfl, rfl, h2, r2⟩ := trodAll_cons r1
  obtain ⟨v3, vs3, d3, ds3, p3, q3, rfl, rfl, rfl, h3, r3⟩ := trodAll_cons r2
  obtain ⟨v4, vs4, d4, ds4, p4, q4, rfl, rfl, rfl, h4, r4⟩ := trodAll_cons r3
  obtain ⟨v5, vs5, d5, ds5, p5, q5, rfl, rfl, rfl, h5, r5⟩ := trodAll_cons r4
  obtain ⟨rfl, rfl, rfl⟩ := trodAll_nil r5
  obtain rfl : args = #[v0, v1, v2, v3, v4, v5] := by cases args; simp_all
  obtain ⟨rfl, rfl⟩ := trodVars_none hV
  obtain ⟨a0, rfl, rfl, rfl, w0⟩ := open_int Try.underlying3 (hval 0 3 v0 rfl rfl) h0
  obtain ⟨A1, len1, cap1, rfl⟩ := okWide_slice Try.underlying23 (hval 1 23 v1 rfl rfl)
  have k1 := h1
  have lt1 : ∀ x ∈ p1, x.block < W.heap.size := by obtain ⟨m, hm⟩ := k1; exact DataW.trod_lt m _ _ _ hm
  have hcap1 : len1 ≤ cap1 := by obtain ⟨fuel, hf⟩ := h1; exact open_cap Try.underlying23 hf
  obtain ⟨l1, hlen1, hmax1, hrow1⟩ : ∃ m : Mat, m.length = len1 ∧ len1 ≤ maxLen ∧ Mats W A1 m := by
    obtain ⟨fuel, hf⟩ := h1
    exact open_mats Try.underlying23 Try.underlying38 Try.underlying33 cellsMx cellsW hf
  subst hlen1
  obtain ⟨A2, len2, cap2, rfl⟩ := okWide_slice Try.underlying24 (hval 2 24 v2 rfl rfl)
  have k2 := h2
  have lt2 : ∀ x ∈ p2, x.block < W.heap.size := by obtain ⟨m, hm⟩ := k2; exact DataW.trod_lt m _ _ _ hm
  have hcap2 : len2 ≤ cap2 := by obtain ⟨fuel, hf⟩ := h2; exact open_cap Try.underlying24 hf
  obtain ⟨l2, hlen2, hmax2, h322, hrow2⟩ : ∃ l : List Chn, l.length = len2 ∧ len2 ≤ maxLen ∧ C32 l ∧ Row W A2 (chnsC l) := by
    obtain ⟨fuel, hf⟩ := h2
    exact open_chns Try.underlying24 Try.underlying44 Try.underlying33 Try.underlying33 Try.underlying33 ⟨by kernel_rfl, by kernel_rfl⟩ ⟨by kernel_rfl, by kernel_rfl⟩ ⟨by kernel_rfl, by kernel_rfl⟩ cellsCh hf
  subst hlen2
  obtain ⟨a3, rfl, rfl, rfl, w3⟩ := open_int Try.underlying3 (hval 3 3 v3 rfl rfl) h3
  obtain ⟨a4, rfl, rfl, rfl, w4⟩ := open_int Try.underlying3 (hval 4 3 v4 rfl rfl) h4
  obtain ⟨a5, rfl, rfl, rfl, w5⟩ := open_int Try.underlying33 (hval 5 33 v5 rfl rfl) h5
  obtain ⟨b5, c5⟩ := bounds_u32 w5
  obtain ⟨s5, rfl⟩ := Int.eq_ofNat_of_zero_le b5
  clear hA0 hval0
  refine (RightsSafe_walk a0 l1 A1 cap1 l2 A2 cap2 a3 a4 s5 W (by omega) hmax1 hcap1 hrow1 hmax2 hcap2 h322 hrow2 trivial).mono fun e W' ⟨he, bel⟩ => ?_
  subst he
  exact ⟨_, rfl, _, _, _, [], _, [], hW', trodAll_mk1 (shut_bool Try.underlying4 _), (trodAll_cons_mk (shut_int Try.underlying3 w0) (trodAll_cons_mk (Below.trod laidOut (by kernel_rfl) (of_decide_eq_true (by kernel_rfl)) k1 bel lt1) (trodAll_cons_mk (Below.trod laidOut (by kernel_rfl) (of_decide_eq_true (by kernel_rfl)) k2 bel lt2) (trodAll_cons_mk (shut_int Try.underlying3 w3) (trodAll_cons_mk (shut_int Try.underlying3 w4) (trodAll_cons_mk (shut_int Try.underlying33 w5) trodAll_mk0)))))), rfl, bel.frame _, fun h => by cases h⟩

theorem over : Rows.rightsSafeRow.holds Try.pinned (OpenSpec.ofChange Rows.rightsSafeSpec) :=
  OpenClaim.holds_of_wide 7 Try.f7 rfl rfl rfl rfl rfl rfl rfl ⟨rfl, rfl, rfl, rfl, rfl⟩ rfl rfl rfl rfl rfl (by kernel_rfl) Try.func7 (by kernel_rfl)
    (of_decide_eq_true (by kernel_rfl)) (by unfold Func.isWrapper; first | (rw [if_pos (by decide +kernel)]; kernel_rfl) | (rw [if_neg (by decide +kernel)]; exact ⟨rfl, rfl⟩))
    (fun os started H enc _ => lifted os started H enc)

end Go.Proofs.Ythgmbiaajgpaaaa.pfRightsSafe

namespace Go.Proofs.Ythgmbiaajgpaaaa
theorem rightsSafe_holds : Rows.RightsSafeSaid := pfRightsSafe.over
end Go.Proofs.Ythgmbiaajgpaaaa
