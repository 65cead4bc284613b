/- The law LabelNumber (this text is written by wip/mkL3.py). -/
import Derived.Test.YtffhklfidgiemaaLawL1
namespace Go.Proofs.Ytffhklfidgiemaa
open Go.RowKit

set_option maxHeartbeats 1000000 in
theorem LabelNumber_with (hF : LNumberOk 20) (hG : LLabelOk 21) (l1 : Int) (p1 : Nat) (k : Int) (w : World) (h1 : p1 < 4294967296) (hX : Laid w) :
    Calls Try.prog 10 #[.agg #[.int .i64 l1, .int .u32 p1], .int .i64 k] w fun e w' => e = .returned (.bool true) ∧ Below w.heap.size w w' := by
  have hb := (Below.refl w.heap.size w).alloc (Nat.le_refl _) (.cells #[.int .i64 l1, .int .u32 (p1 : Int)] 24)
  have HA := Lib.hid (LabAt.new w (l1, p1) 24)
  obtain ⟨a0, a1⟩ := HA.out
  simp only at a0 a1
  have hXb := hX.below hb
  have kc := fun W => LabelCheck_any l1 p1 W
  have kLok : (0 ≤ k ∧ k < 128) → ∃ (l : Int) (p : Nat), (∀ W, Laid W → Calls Try.prog 21 #[.int .i64 k] W fun e w' => e = .returned (.tuple #[.agg #[.int .i64 l, .int .u32 p], .int .i64 0]) ∧ Below W.heap.size W w') ∧
      ∀ W, Laid W → Calls Try.prog 20 #[.agg #[.int .i64 l, .int .u32 p]] W fun e w' => e = .returned (.tuple #[.int .i64 k, .int .i64 0]) ∧ Below W.heap.size W w' := fun hk => by
    obtain ⟨l, p, hlp⟩ : ∃ l p, labOf k = (l, p) := ⟨_, _, rfl⟩
    have hok := labOf_ok hk
    rw [hlp] at hok
    refine ⟨l, p, fun W hW => ?_, fun W hW => ?_⟩
    · have := hG k W hW
      rw [if_pos hk, if_pos hk, hlp] at this
      exact this
    · have := hF (l, p) W (by have := hok.1.2.2; simp only at this ⊢; omega) hW
      rw [codeL_ok hok.1, if_pos rfl, hok.2] at this
      exact this
  have kLbad : ¬ (0 ≤ k ∧ k < 128) → ∀ W, Laid W → Calls Try.prog 21 #[.int .i64 k] W fun e w' => e = .returned (.tuple #[.agg #[.int .i64 0, .int .u32 0], .int .i64 5]) ∧ Below W.heap.size W w' := fun hk W hW => by
    have := hG k W hW
    rw [if_neg hk, if_neg hk] at this
    exact this
  by_cases hc : codeL (l1, p1) = 0
  · obtain ⟨N, hN⟩ : ∃ N, numL (l1, p1) = N := ⟨_, rfl⟩
    have key : ∀ W, Laid W → Calls Try.prog 20 #[.agg #[.int .i64 l1, .int .u32 p1]] W fun e w' => e = .returned (.tuple #[.int .i64 N, .int .i64 0]) ∧ Below W.heap.size W w' := fun W hW => by
      have := hF (l1, p1) W h1 hW
      rw [hc, if_pos rfl, hN] at this
      exact this
    have keyL : ∀ W, Laid W → Calls Try.prog 21 #[.int .i64 N] W fun e w' => e = .returned (.tuple #[.agg #[.int .i64 l1, .int .u32 p1], .int .i64 0]) ∧ Below W.heap.size W w' := fun W hW => by
      have hnl := numL_of (codeL_zero hc)
      rw [hN] at hnl
      have := hG N W hW
      rw [if_pos hnl.1, if_pos hnl.1, hnl.2] at this
      exact this
    rw [hc] at kc
    clear hc hN
    go_enter Try.func10, Try.ntmps10
    go_wp2_with fail
    refine (key _ hXb).mono ?_
    rintro e w1 ⟨rfl, hb1⟩
    have HA1 := Lib.hid (HA.out.below hb1)
    obtain ⟨c0, c1⟩ := HA1.out
    simp only at c0 c1
    have hbw := hb.trans (hb1.mono hb.size)
    clear hb1 key
    go_wp2_with fail
    refine (kc _).mono ?_
    rintro e w2 ⟨rfl, hb2⟩
    have HA2 := Lib.hid (HA1.out.below hb2)
    have hbw2 := hbw.trans (hb2.mono hbw.size)
    clear hb2 kc c0 c1
    go_wp2_with fail
    refine (keyL _ (hX.below hbw2)).mono ?_
    rintro e w3 ⟨rfl, hb3⟩
    have hb3' := hb3.alloc hb3.size (.cells #[.int .i64 l1, .int .u32 (p1 : Int)] 24)
    have hbw3 := hbw2.trans (hb3'.mono hbw2.size)
    obtain ⟨d0, d1⟩ := HA2.out.below hb3'
    obtain ⟨g0, g1⟩ := LabAt.new w3 (l1, p1) 24
    simp only at d0 d1 g0 g1
    clear hb3 hb3' keyL
    by_cases hk : 0 ≤ k ∧ k < 128
    · have kl := kLok hk
      obtain ⟨l, p, kl, kn⟩ := kl
      clear hk kLok kLbad
      go_wp2_with fail
      refine (kl _ (hX.below hbw3)).mono ?_
      rintro e w7 ⟨rfl, hb7⟩
      have hb7' := hb7.alloc hb7.size (.cells #[.int .i64 l, .int .u32 (p : Int)] 24)
      have hb8 := (hbw3).trans (hb7'.mono (hbw3).size)
      obtain ⟨c0, c1⟩ := LabAt.new w7 (l, p) 24
      simp only at c0 c1
      clear hb7 hb7' kl
      go_wp2_with fail
      refine (kn _ (hX.below hb8)).mono ?_
      rintro e w9 ⟨rfl, hb9⟩
      have hb10 := hb8.trans (hb9.mono hb8.size)
      clear hb9
      go_wp2
      go_ret
      exact ⟨ret_bool (by simp), hb10⟩
    · have kl := kLbad hk
      clear hk kLok kLbad
      go_wp2_with fail
      refine (kl _ (hX.below hbw3)).mono ?_
      rintro e w7 ⟨rfl, hb7⟩
      have hb7' := hb7.alloc hb7.size (.cells #[.int .i64 0, .int .u32 0] 24)
      have hb8 := (hbw3).trans (hb7'.mono (hbw3).size)
      obtain ⟨c0, c1⟩ := LabAt.new w7 (0, 0) 24
      simp at c0 c1
      clear hb7 hb7' kl
      go_wp2
      go_ret
      exact ⟨rfl, hb8⟩
  · have key : ∀ W, Laid W → Calls Try.prog 20 #[.agg #[.int .i64 l1, .int .u32 p1]] W fun e w' => e = .returned (.tuple #[.int .i64 0, .int .i64 (codeL (l1, p1))]) ∧ Below W.heap.size W w' := fun W hW => by
      have := hF (l1, p1) W h1 hW
      rw [if_neg hc] at this
      exact this
    generalize codeL (l1, p1) = q at *
    have hq1 : (q == 0) = false := by simpa using hc
    have hq2 : (q != 0) = true := by simpa using hc
    clear hc
    go_enter Try.func10, Try.ntmps10
    go_wp2_with fail
    refine (key _ hXb).mono ?_
    rintro e w1 ⟨rfl, hb1⟩
    obtain ⟨c0, c1⟩ := HA.out.below hb1
    simp only at c0 c1
    have hbw := hb.trans (hb1.mono hb.size)
    clear hb1 key
    go_wp2_with fail
    refine (kc _).mono ?_
    rintro e w2 ⟨rfl, hb2⟩
    have hbw2 := hbw.trans (hb2.mono hbw.size)
    clear hb2 kc c0 c1
    by_cases hk : 0 ≤ k ∧ k < 128
    · have kl := kLok hk
      obtain ⟨l, p, kl, kn⟩ := kl
      clear hk kLok kLbad
      go_wp2_with fail
      refine (kl _ (hX.below hbw2)).mono ?_
      rintro e w7 ⟨rfl, hb7⟩
      have hb7' := hb7.alloc hb7.size (.cells #[.int .i64 l, .int .u32 (p : Int)] 24)
      have hb8 := (hbw2).trans (hb7'.mono (hbw2).size)
      obtain ⟨c0, c1⟩ := LabAt.new w7 (l, p) 24
      simp only at c0 c1
      clear hb7 hb7' kl
      go_wp2_with fail
      refine (kn _ (hX.below hb8)).mono ?_
      rintro e w9 ⟨rfl, hb9⟩
      have hb10 := hb8.trans (hb9.mono hb8.size)
      clear hb9
      go_wp2
      go_ret
      exact ⟨ret_bool (by simp), hb10⟩
    · have kl := kLbad hk
      clear hk kLok kLbad
      go_wp2_with fail
      refine (kl _ (hX.below hbw2)).mono ?_
      rintro e w7 ⟨rfl, hb7⟩
      have hb7' := hb7.alloc hb7.size (.cells #[.int .i64 0, .int .u32 0] 24)
      have hb8 := (hbw2).trans (hb7'.mono (hbw2).size)
      obtain ⟨c0, c1⟩ := LabAt.new w7 (0, 0) 24
      simp at c0 c1
      clear hb7 hb7' kl
      go_wp2
      go_ret
      exact ⟨rfl, hb8⟩

end Go.Proofs.Ytffhklfidgiemaa
