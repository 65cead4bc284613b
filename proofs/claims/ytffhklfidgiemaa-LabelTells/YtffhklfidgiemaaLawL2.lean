/- The laws LabelTells, LabelChecks. -/
import Derived.Test.YtffhklfidgiemaaLawL1
namespace Go.Proofs.Ytffhklfidgiemaa
open Go.RowKit

set_option maxHeartbeats 1000000 in
theorem LabelTells_with (hF : LLabelOk 21) (k : Int) (w : World) (hX : Laid w) :
    Calls Try.prog 8 #[.int .i64 k] w fun e w' => e = .returned (.bool true) ∧ Below w.heap.size w w' := by
  by_cases hk : 0 ≤ k ∧ k < 128
  · obtain ⟨l, p, hlp⟩ : ∃ l p, labOf k = (l, p) := ⟨_, _, rfl⟩
    have h1 := labOf_ok hk
    rw [hlp] at h1
    obtain ⟨⟨g1, g2, g3⟩, g4⟩ := h1
    unfold numL at g4
    simp only at g1 g2 g3 g4
    have key : Calls Try.prog 21 #[.int .i64 k] w fun e w' => e = .returned (.tuple #[.agg #[.int .i64 l, .int .u32 p], .int .i64 0]) ∧ Below w.heap.size w w' := by
      have := hF k w hX
      rw [if_pos hk, if_pos hk, hlp] at this
      exact this
    have kc := fun W => LabelCheck_any l p W
    rw [codeL_ok (a := (l, p)) ⟨g1, g2, g3⟩] at kc
    obtain ⟨k0, k1⟩ := hk
    have hk3 : decide (128 ≤ k) = false := by rw [decide_eq_false_iff_not]; omega
    clear hlp
    go_enter Try.func8, Try.ntmps8
    go_wp2_with fail
    refine key.mono ?_
    rintro e w1 ⟨rfl, hb1⟩
    have hb2 := hb1.alloc hb1.size (.cells #[.int .i64 l, .int .u32 (p : Int)] 24)
    have HC := Lib.hid (LabAt.new w1 (l, p) 24)
    obtain ⟨c0, c1⟩ := HC.out
    simp only at c0 c1
    clear key hb1
    go_wp2_with fail
    refine (kc _).mono ?_
    rintro e w3 ⟨rfl, hb3⟩
    obtain ⟨d0, d1⟩ := HC.out.below hb3
    simp only at d0 d1
    have hb4 := hb2.trans (hb3.mono hb2.size)
    clear hb3
    go_wp2
    go_ret
    exact ⟨ret_bool (by simp), hb4⟩
  · have key : Calls Try.prog 21 #[.int .i64 k] w fun e w' => e = .returned (.tuple #[.agg #[.int .i64 0, .int .u32 0], .int .i64 5]) ∧ Below w.heap.size w w' := by
      have := hF k w hX
      rw [if_neg hk, if_neg hk] at this
      exact this
    by_cases h0 : k < 0
    · clear hk
      go_enter Try.func8, Try.ntmps8
      go_wp2_with fail
      refine key.mono ?_
      rintro e w1 ⟨rfl, hb1⟩
      have hb2 := hb1.alloc hb1.size (.cells #[.int .i64 0, .int .u32 0] 24)
      obtain ⟨c0, c1⟩ := LabAt.new w1 (0, 0) 24
      simp at c0 c1
      clear key hb1
      go_wp2
      go_ret
      exact ⟨rfl, hb2⟩
    · have h2 : 128 ≤ k := by omega
      clear hk
      go_enter Try.func8, Try.ntmps8
      go_wp2_with fail
      refine key.mono ?_
      rintro e w1 ⟨rfl, hb1⟩
      have hb2 := hb1.alloc hb1.size (.cells #[.int .i64 0, .int .u32 0] 24)
      obtain ⟨c0, c1⟩ := LabAt.new w1 (0, 0) 24
      simp at c0 c1
      clear key hb1
      go_wp2
      go_ret
      exact ⟨rfl, hb2⟩

set_option maxHeartbeats 1000000 in
theorem LabelChecks_with (hF : LCheckOk 11) (l1 : Int) (p1 : Nat) (w : World) (h1 : p1 < 4294967296) (hX : Laid w) :
    Calls Try.prog 3 #[.agg #[.int .i64 l1, .int .u32 p1]] w fun e w' => e = .returned (.bool true) ∧ Below w.heap.size w w' := by
  have hb := (Below.refl w.heap.size w).alloc (Nat.le_refl _) (.cells #[.int .i64 l1, .int .u32 (p1 : Int)] 24)
  have hA := LabAt.new w (l1, p1) 24
  obtain ⟨k, hk⟩ : ∃ k, codeL (l1, p1) = k := ⟨_, rfl⟩
  have kc : ∀ W, Below w.heap.size w W → LabAt W w.heap.size (l1, p1) → Calls Try.prog 11 #[.agg #[.int .i64 l1, .int .u32 p1]] W fun e w' => e = .returned (.int .i64 k) ∧ Below w.heap.size w w' ∧ LabAt w' w.heap.size (l1, p1) := fun W hW hl => by
    refine Calls.mono (hF (l1, p1) W h1 (hX.below hW)) ?_
    rintro e w' ⟨rfl, hb'⟩
    exact ⟨by rw [hk], hW.trans (hb'.mono hW.size), hl.below hb'⟩
  have kr : ∀ W, Below w.heap.size w W → LabAt W w.heap.size (l1, p1) → Calls Try.prog 12 #[.agg #[.int .i64 l1, .int .u32 p1]] W fun e w' => e = .returned (.int .i64 k) ∧ Below w.heap.size w w' ∧ LabAt w' w.heap.size (l1, p1) := fun W hW hl => by
    refine Calls.mono (LabelCheck_any l1 p1 W) ?_
    rintro e w' ⟨rfl, hb'⟩
    exact ⟨by rw [hk], hW.trans (hb'.mono hW.size), hl.below hb'⟩
  have k4 : ∀ W, Below w.heap.size w W → LabAt W w.heap.size (l1, p1) → Calls Try.prog 11 #[.agg #[.int .i64 4, .int .u32 0]] W fun e w' => e = .returned (.int .i64 4) ∧ Below w.heap.size w w' ∧ LabAt w' w.heap.size (l1, p1) := fun W hW hl => by
    refine Calls.mono (hF (4, 0) W (by decide) (hX.below hW)) ?_
    rintro e w' ⟨rfl, hb'⟩
    exact ⟨by rw [codeL_bad (fun h => by have := h.2.1; simp only at this; omega)], hW.trans (hb'.mono hW.size), hl.below hb'⟩
  go_enter Try.func3, Try.ntmps3
  go_wp2
  generalize w.alloc (.cells #[.int .i64 l1, .int .u32 (p1 : Int)] 24) = w1 at *
  have HBd := Lib.hid (show Below w.heap.size w w1.drew from hb.drew)
  have HSd := Lib.hid (show LabAt w1.drew w.heap.size (l1, p1) from hA)
  clear hk
  generalize hsz : w.heap.size = sz at *
  go_region_held3 (fun w' => w'.cell? ⟨sz, 0, none⟩ = some (.int .i64 l1) ∧ w'.cell? ⟨sz, 1, none⟩ = some (.int .u32 (p1 : Int))) (first | exact HSd.out | exact HSc.out | exact HSr.out | exact HSe.out | go_keep)
    (first
    | (go_at_call 12
       refine (kr _ (by first | exact HBd.out | exact HBc.out) (by first | exact HSd.out | exact HSc.out)).mono ?_
       rintro e w4 ⟨rfl, hb4, hs4⟩
       have HBr := Lib.hid hb4
       have HSr := Lib.hid hs4
       clear hb4 hs4)
    | (go_at_call 11
       with_reducible refine Calls.mono (kc _ (by first | exact HBd.out | exact HBr.out) (by first | exact HSd.out | exact HSr.out)) ?_
       rintro e w5 ⟨rfl, hb5, hs5⟩
       have HBc := Lib.hid hb5
       have HSc := Lib.hid hs5
       clear hb5 hs5)
    | (go_at_call 11
       with_reducible refine Calls.mono (k4 _ (by first | exact HBc.out | exact HBr.out) (by first | exact HSc.out | exact HSr.out)) ?_
       rintro e w6 ⟨rfl, hb6, hs6⟩
       have HBe := Lib.hid hb6
       have HSe := Lib.hid hs6
       clear hb6 hs6))
  all_goals
    go_wp2
    go_ret
    exact ⟨rfl, by rw [hsz]; exact HBe.out⟩

end Go.Proofs.Ytffhklfidgiemaa
