/- truth.Dual. -/
import Derived.Test.YtcebbhfpnkhlmaaWTo1
namespace Go.Proofs.Ytcebbhfpnkhlmaa
open Go.RowKit

/-- One table in a list of its own. -/
theorem tabs_one {w : World} {A : Option Addr} {f : List Bool} {c : Nat} {t : TypeId} (hl : f.length ≤ maxLen) (hr : Row w A (boolsC f)) :
    Tabs (w.alloc (.cells #[.slice A f.length c] t)) (some ⟨w.heap.size, 0, none⟩) [f] := by
  refine ⟨[.slice A f.length c], rfl, .inr ⟨w.heap.size, 0, rfl, fun j v hv => ?_⟩, fun i g hg => ?_⟩
  · cases j with
    | zero =>
      simp only [List.getElem?_cons_zero, Option.some.injEq] at hv
      subst hv
      exact cell_one_new _ _ _ 0 _ rfl
    | succ j => simp at hv
  · cases i with
    | zero =>
      simp only [List.getElem?_cons_zero, Option.some.injEq] at hg
      subst hg
      exact ⟨hl, A, c, rfl, hr.below ((Below.refl _ _).alloc (Nat.le_refl _) _)⟩
    | succ i => simp at hg

set_option maxHeartbeats 1000000 in
theorem TDual_ok : TDualOk 28 := by
  intro n f A c w hl hr hX
  have hck := tCheck_any n [f] (some ⟨w.heap.size, 0, none⟩) 1 (w.alloc (.cells #[.slice A f.length c] 22)) (by simp [maxLen]) (tabs_one hl hr)
  rw [codeF_one] at hck
  simp only [List.length_cons, List.length_nil, Nat.zero_add] at hck
  have hb0 : Below w.heap.size w (w.alloc (.cells #[.slice A f.length c] 22)) := (Below.refl _ _).alloc (Nat.le_refl _) _
  by_cases hc : codeT n f.length = 0
  · obtain ⟨k, rfl, hk, hlen⟩ := codeT_zero hc
    rw [hc] at hck ⊢
    have hd := tDual_any k hk f A c _ hlen (hr.below hb0)
    rw [hlen] at hd hck hb0 ⊢
    clear hc hlen
    go_enter Try.func28, Try.ntmps28
    go_wp2_with fail
    refine hck.mono ?_
    rintro e w1 ⟨rfl, hw1⟩
    rw [hw1] at hd hb0
    clear hck hw1
    go_wp2_with fail
    refine hd.mono ?_
    rintro e w2 ⟨rfl, hown, hb2⟩
    have HO := Lib.hid hown
    have HB := Lib.hid (hb0.trans (hb2.mono hb0.size))
    clear hown hb2 hb0 hd
    go_wp2
    go_ret2
    exact ⟨_, one k, tabB (one k) (dualF k (atB f)), by rw [tabB_length]; rfl, by simp, HO.out.row, HB.out⟩
  · have HC := Lib.hid hc
    have hne : (codeT n f.length != 0) = true := by simpa using hc
    clear hc
    generalize codeT n f.length = q at *
    go_enter Try.func28, Try.ntmps28
    go_wp2_with fail
    refine hck.mono ?_
    rintro e w1 ⟨rfl, hw1⟩
    rw [hw1] at hb0
    have HB := Lib.hid hb0
    clear hck hw1 hb0
    go_wp2
    go_ret2
    exact ⟨_, 0, [], rfl, by first | rfl | rw [if_neg HC.out], .inl rfl, HB.out⟩

end Go.Proofs.Ytcebbhfpnkhlmaa
