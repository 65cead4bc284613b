/- lattice.Shared, lattice.Modular. -/
import Derived.Test.YtmlggmopkelcfaaDoorWAlw
namespace Go.Proofs.YtmlggmopkelcfaaDoor
open Go.RowKit

theorem shB_all (n : Nat) (ps : List (Int × Int)) : allB n (distB n ps) = shB n ps true := by
  rw [Bool.eq_iff_iff, shB_iff]
  unfold allB
  rw [@decide_eq_true_iff _ (Classical.propDecidable _)]
  constructor
  · intro h a b c ha hb hc _ _
    simpa [distB] using h a b c ha hb hc
  · intro h a b c ha hb hc
    simpa [distB] using h a b c ha hb hc (.inl ha) (.inl rfl)
/-- What Modular asks of a, b, c. -/
noncomputable def modB (n : Nat) (ps : List (Int × Int)) (a b c : Nat) : Bool := !(upT n ps c).testBit a || distB n ps a b c
theorem shB_mod (n : Nat) (ps : List (Int × Int)) : allB n (modB n ps) = shB n ps false := by
  rw [Bool.eq_iff_iff, shB_iff]
  unfold allB
  rw [@decide_eq_true_iff _ (Classical.propDecidable _)]
  constructor
  · intro h a b c ha hb hc _ k
    have := h a b c ha hb hc
    have ku : under ps c a = true := k.resolve_left (by decide)
    rw [modB, upT_testBit, ku] at this
    simpa [distB, ha] using this
  · intro h a b c ha hb hc
    rw [modB, upT_testBit]
    cases hu : under ps c a with
    | false => simp
    | true => simpa [distB, ha] using h a b c ha hb hc (.inl ha) (.inr hu)

theorem dist_enters (args : Array Value) (w : World) : (callFunc 11 args).run Tryd.prog w = .ok (.enter 11 args) w := enters_of Tryd.func11 (by kernel_rfl) rfl args w
set_option maxHeartbeats 2000000 in
theorem Shared_ok : ShOk 4 true := by
  intro n ps A c w hm hr hX
  go_enter Tryd.func4, Tryd.ntmps4
  go_wp2_with fail
  refine (read_any n ps A c _ hm hr hX).mono ?_
  rintro e w1 (⟨hcl, g, Vj, Vm, rfl, htab, hmj, hmm, hb1⟩ | ⟨hcl, rfl, hb1⟩)
  · have hc0 : code n ps = 0 := by
      by_cases h : code n ps = 0
      · exact h
      · rw [codeL_err h] at hcl; exact hcl
    obtain ⟨h2, h3, h4⟩ := code_zero hc0
    obtain ⟨n, rfl⟩ := Int.eq_ofNat_of_zero_le (show 0 ≤ n by unfold Large at h2; omega)
    obtain ⟨hn1, hn6, hl⟩ : 1 ≤ n ∧ n ≤ 6 ∧ ps.length ≤ 20 := by unfold Large at h2; omega
    rw [Int.toNat_natCast] at htab hmj hmm
    rw [Int.toNat_natCast]
    obtain ⟨gj, rfl⟩ := hmj.shape
    obtain ⟨gm, rfl⟩ := hmm.shape
    have HCL := Lib.hid hcl
    have HL := Lib.hid (codeL_zero hcl).2
    have hb2 := (Below.refl w1.heap.size w1).alloc (Nat.le_refl _) (.cells #[.slice (some ⟨g, 0, none⟩) n n, .slice (some ⟨gj, 0, none⟩) n n, .slice (some ⟨gm, 0, none⟩) n n] 39)
    have HMj := Lib.hid (hmj.below hb2)
    have HMm := Lib.hid (hmm.below hb2)
    have HB := Lib.hid (hb1.alloc hb1.size (.cells #[.slice (some ⟨g, 0, none⟩) n n, .slice (some ⟨gj, 0, none⟩) n n, .slice (some ⟨gm, 0, none⟩) n n] 39))
    clear hc0 h2 h3 h4 hcl htab hmj hmm hb1 hb2
    go_wp2_with fail
    generalize w1.alloc (.cells #[.slice (some ⟨g, 0, none⟩) n n, .slice (some ⟨gj, 0, none⟩) n n, .slice (some ⟨gm, 0, none⟩) n n] 39) = w2 at *
    have key := always_any n (some ⟨g, 0, none⟩) n gj gm 11 #[.agg #[.slice (some ⟨g, 0, none⟩) n n, .slice (some ⟨gj, 0, none⟩) n n, .slice (some ⟨gm, 0, none⟩) n n]] #[] (distB n ps) w2 hn6 dist_enters
      (fun a b c W ha hb hc hW => dist_any n ps (some ⟨g, 0, none⟩) n _ _ a b c _ _ W HL.out (HMj.out.below hW) (HMm.out.below hW) ha hb hc)
    rw [shB_all] at key
    with_reducible refine key.mono ?_
    rintro e w3 ⟨rfl, hb3⟩
    have HE := Lib.hid (HB.out.trans (hb3.mono HB.out.size))
    clear hb3 key
    go_wp2
    go_ret2
    exact ⟨by rw [HCL.out]; rfl, HE.out⟩
  · have HN := Lib.hid hcl
    have hk2 : (codeL n ps != 0) = true := by simpa using hcl
    have HB := Lib.hid (hb1.alloc hb1.size (.cells #[.slice none 0 0, .slice none 0 0, .slice none 0 0] 39))
    clear hcl hb1
    go_wp2
    go_ret2
    exact ⟨by rw [show (codeL n ps == 0) = false from by simpa using HN.out, Bool.false_and]; rfl, HB.out⟩

end Go.Proofs.YtmlggmopkelcfaaDoor
