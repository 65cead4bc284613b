/- The laws LabelChecks, LabelUnders, LabelJoins, LabelMeets, LabelNumbers, LabelTells (this text is written by wip/mkL1.py). -/
import Derived.Test.YtffhklfidgiemaaWL1
import Derived.Deep.RegionHeld3
import Derived.Laws.StructEq
namespace Go.Proofs.Ytffhklfidgiemaa
open Go.RowKit

theorem twoBoxL (l1 l2 : Int) (p1 p2 : Nat) (w : World) : LabAt ((w.alloc (.cells #[.int .i64 l1, .int .u32 (p1 : Int)] 24)).alloc (.cells #[.int .i64 l2, .int .u32 (p2 : Int)] 24)) w.heap.size (l1, p1) ∧
    LabAt ((w.alloc (.cells #[.int .i64 l1, .int .u32 (p1 : Int)] 24)).alloc (.cells #[.int .i64 l2, .int .u32 (p2 : Int)] 24)) (w.heap.size + 1) (l2, p2) ∧
    Below w.heap.size w ((w.alloc (.cells #[.int .i64 l1, .int .u32 (p1 : Int)] 24)).alloc (.cells #[.int .i64 l2, .int .u32 (p2 : Int)] 24)) :=
  ⟨(twoBox (l1, p1) (l2, p2) w).atA, (twoBox (l1, p1) (l2, p2) w).atB, (twoBox (l1, p1) (l2, p2) w).bel⟩

set_option maxHeartbeats 1000000 in
theorem LabelUnders_with (hF : LUnderOk 13) (l1 : Int) (p1 : Nat) (l2 : Int) (p2 : Nat) (w : World) (h1 : p1 < 4294967296) (h2 : p2 < 4294967296) (hX : Laid w) :
    Calls Try.prog 4 #[.agg #[.int .i64 l1, .int .u32 p1], .agg #[.int .i64 l2, .int .u32 p2]] w fun e w' => e = .returned (.bool true) ∧ Below w.heap.size w w' := by
  obtain ⟨hA, hB, hb⟩ := twoBoxL l1 l2 p1 p2 w
  have HA := Lib.hid hA
  have HB := Lib.hid hB
  obtain ⟨a0, a1⟩ := hA
  obtain ⟨b0, b1⟩ := hB
  simp only at a0 a1 b0 b1
  have hXb := hX.below hb
  have key : ∀ W, Laid W → Calls Try.prog 13 #[.agg #[.int .i64 l1, .int .u32 p1], .agg #[.int .i64 l2, .int .u32 p2]] W fun e w' => e = .returned (.tuple #[.bool (codeLL (l1, p1) (l2, p2) == 0 && underL (l1, p1) (l2, p2)), .int .i64 (codeLL (l1, p1) (l2, p2))]) ∧ Below W.heap.size W w' := fun W hW => hF (l1, p1) (l2, p2) W h1 h2 hW
  have kc := fun W => labelsCode_any l1 l2 p1 p2 W
  have kb := fun W => refBelow_any l1 l2 p1 p2 W h1 h2
  generalize underL (l1, p1) (l2, p2) = u at *
  by_cases hc : codeLL (l1, p1) (l2, p2) = 0
  · rw [hc] at key kc
    rw [show (((0 : Int) == 0) && u) = u from rfl] at key
    clear hc
    go_enter Try.func4, Try.ntmps4
    go_wp2_with fail
    refine (key _ hXb).mono ?_
    rintro e w1 ⟨rfl, hb1⟩
    have hA1 := HA.out.below hb1
    have hB1 := HB.out.below hb1
    have hbw := hb.trans (hb1.mono hb.size)
    obtain ⟨c0, c1⟩ := hA1
    obtain ⟨d0, d1⟩ := hB1
    have HA1 := Lib.hid (show LabAt w1 w.heap.size (l1, p1) from ⟨c0, c1⟩)
    have HB1 := Lib.hid (show LabAt w1 (w.heap.size + 1) (l2, p2) from ⟨d0, d1⟩)
    simp only at c0 c1 d0 d1
    clear hb1
    go_wp2_with fail
    refine (kc _).mono ?_
    rintro e w2 ⟨rfl, hb2⟩
    have hA2 := HA1.out.below hb2
    have hB2 := HB1.out.below hb2
    have hbw2 := hbw.trans (hb2.mono hbw.size)
    obtain ⟨e0, e1⟩ := hA2
    obtain ⟨f0, f1⟩ := hB2
    simp only at e0 e1 f0 f1
    clear hb2
    go_wp2_with fail
    refine (kb _).mono ?_
    rintro e w3 ⟨rfl, hb3⟩
    have hbw3 := hbw2.trans (hb3.mono hbw2.size)
    clear hb3
    cases u
    all_goals
      go_wp2
      go_ret
      exact ⟨rfl, hbw3⟩
  · rw [show (codeLL (l1, p1) (l2, p2) == 0) = false from by simpa using hc, Bool.false_and] at key
    generalize codeLL (l1, p1) (l2, p2) = k at *
    have hk2 : (k != 0) = true := by simpa using hc
    clear hc
    go_enter Try.func4, Try.ntmps4
    go_wp2_with fail
    refine (key _ hXb).mono ?_
    rintro e w1 ⟨rfl, hb1⟩
    have hA1 := HA.out.below hb1
    have hB1 := HB.out.below hb1
    have hbw := hb.trans (hb1.mono hb.size)
    obtain ⟨c0, c1⟩ := hA1
    obtain ⟨d0, d1⟩ := hB1
    simp only at c0 c1 d0 d1
    clear hb1
    go_wp2_with fail
    refine (kc _).mono ?_
    rintro e w2 ⟨rfl, hb2⟩
    have hbw2 := hbw.trans (hb2.mono hbw.size)
    clear hb2
    go_wp2
    go_ret
    exact ⟨ret_bool (by simp), hbw2⟩

set_option maxHeartbeats 1000000 in
theorem LabelJoins_with (hF : LJoinOk 16) (l1 : Int) (p1 : Nat) (l2 : Int) (p2 : Nat) (w : World) (h1 : p1 < 4294967296) (h2 : p2 < 4294967296) (hX : Laid w) :
    Calls Try.prog 5 #[.agg #[.int .i64 l1, .int .u32 p1], .agg #[.int .i64 l2, .int .u32 p2]] w fun e w' => e = .returned (.bool true) ∧ Below w.heap.size w w' := by
  obtain ⟨hA, hB, hb⟩ := twoBoxL l1 l2 p1 p2 w
  have HA := Lib.hid hA
  have HB := Lib.hid hB
  obtain ⟨a0, a1⟩ := hA
  obtain ⟨b0, b1⟩ := hB
  simp only at a0 a1 b0 b1
  have hXb := hX.below hb
  have kc := fun W => labelsCode_any l1 l2 p1 p2 W
  by_cases hc : codeLL (l1, p1) (l2, p2) = 0
  · obtain ⟨lj, pj, hj⟩ : ∃ lj pj, joinL (l1, p1) (l2, p2) = (lj, pj) := ⟨_, _, rfl⟩
    have key : ∀ W, Laid W → Calls Try.prog 16 #[.agg #[.int .i64 l1, .int .u32 p1], .agg #[.int .i64 l2, .int .u32 p2]] W fun e w' => e = .returned (.tuple #[.agg #[.int .i64 lj, .int .u32 pj], .int .i64 0]) ∧ Below W.heap.size W w' := fun W hW => by
      have := hF (l1, p1) (l2, p2) W h1 h2 hW
      rw [hc, if_pos rfl, hj] at this
      exact this
    have kj : ∀ W, Calls Try.prog 17 #[.agg #[.int .i64 l1, .int .u32 p1], .agg #[.int .i64 l2, .int .u32 p2]] W fun e w' => e = .returned (.agg #[.int .i64 lj, .int .u32 pj]) ∧ Below W.heap.size W w' := fun W => by
      have := Both_any l1 l2 p1 p2 W h1 h2
      rw [hj] at this
      exact this
    rw [hc] at kc
    clear hc hj
    go_enter Try.func5, Try.ntmps5
    go_wp2_with fail
    refine (key _ hXb).mono ?_
    rintro e w1 ⟨rfl, hb1⟩
    have hb1' := hb1.alloc hb1.size (.cells #[.int .i64 lj, .int .u32 (pj : Int)] 24)
    have hbw := hb.trans (hb1'.mono hb.size)
    obtain ⟨c0, c1⟩ := HA.out.below hb1'
    obtain ⟨d0, d1⟩ := HB.out.below hb1'
    obtain ⟨g0, g1⟩ := LabAt.new w1 (lj, pj) 24
    simp only at c0 c1 d0 d1 g0 g1
    clear hb1 hb1'
    have HA1 := Lib.hid (show LabAt (w1.alloc (.cells #[.int .i64 lj, .int .u32 (pj : Int)] 24)) w.heap.size (l1, p1) from ⟨c0, c1⟩)
    have HB1 := Lib.hid (show LabAt (w1.alloc (.cells #[.int .i64 lj, .int .u32 (pj : Int)] 24)) (w.heap.size + 1) (l2, p2) from ⟨d0, d1⟩)
    have HC1 := Lib.hid (show LabAt (w1.alloc (.cells #[.int .i64 lj, .int .u32 (pj : Int)] 24)) w1.heap.size (lj, pj) from ⟨g0, g1⟩)
    go_wp2_with fail
    refine (kc _).mono ?_
    rintro e w3 ⟨rfl, hb3⟩
    have hA3 := HA1.out.below hb3
    have hB3 := HB1.out.below hb3
    have hC3 := HC1.out.below hb3
    have hbw3 := hbw.trans (hb3.mono hbw.size)
    clear hb3
    generalize w1.heap.size = gc at *
    have HS3 := Lib.hid (show w3.drew.cell? ⟨gc, 0, none⟩ = some (.int .i64 lj) ∧ w3.drew.cell? ⟨gc, 1, none⟩ = some (.int .u32 (pj : Int)) ∧ w3.drew.cell? ⟨w.heap.size, 0, none⟩ = some (.int .i64 l1) ∧ w3.drew.cell? ⟨w.heap.size, 1, none⟩ = some (.int .u32 (p1 : Int)) ∧ w3.drew.cell? ⟨w.heap.size + 1, 0, none⟩ = some (.int .i64 l2) ∧ w3.drew.cell? ⟨w.heap.size + 1, 1, none⟩ = some (.int .u32 (p2 : Int)) from ⟨hC3.1, hC3.2, hA3.1, hA3.2, hB3.1, hB3.2⟩)
    have FS := Lib.hid (fun (W4 : World) (h : Below w3.drew.heap.size w3.drew W4) => show W4.cell? ⟨gc, 0, none⟩ = some (.int .i64 lj) ∧ W4.cell? ⟨gc, 1, none⟩ = some (.int .u32 (pj : Int)) ∧ W4.cell? ⟨w.heap.size, 0, none⟩ = some (.int .i64 l1) ∧ W4.cell? ⟨w.heap.size, 1, none⟩ = some (.int .u32 (p1 : Int)) ∧ W4.cell? ⟨w.heap.size + 1, 0, none⟩ = some (.int .i64 l2) ∧ W4.cell? ⟨w.heap.size + 1, 1, none⟩ = some (.int .u32 (p2 : Int)) from
      ⟨(LabAt.below (w := w3.drew) hC3 h).1, (LabAt.below (w := w3.drew) hC3 h).2, (LabAt.below (w := w3.drew) hA3 h).1, (LabAt.below (w := w3.drew) hA3 h).2, (LabAt.below (w := w3.drew) hB3 h).1, (LabAt.below (w := w3.drew) hB3 h).2⟩)
    have FB := Lib.hid (fun (W4 : World) (h : Below w3.drew.heap.size w3.drew W4) => show Below w.heap.size w W4 from (below_drewN hbw3 1).trans (Below.mono h (below_drewN hbw3 1).size))
    go_wp2
    generalize hsz : w.heap.size = sz at *
    go_region_held3 (fun w' => w'.cell? ⟨gc, 0, none⟩ = some (.int .i64 lj) ∧ w'.cell? ⟨gc, 1, none⟩ = some (.int .u32 (pj : Int)) ∧ w'.cell? ⟨sz, 0, none⟩ = some (.int .i64 l1) ∧ w'.cell? ⟨sz, 1, none⟩ = some (.int .u32 (p1 : Int)) ∧ w'.cell? ⟨sz + 1, 0, none⟩ = some (.int .i64 l2) ∧ w'.cell? ⟨sz + 1, 1, none⟩ = some (.int .u32 (p2 : Int))) (first | exact HS3.out | exact HS4.out | go_keep)
      (first
      | (go_at_call 17
         refine (kj _).mono ?_
         rintro e w4 ⟨rfl, hb4⟩
         have HS4 := Lib.hid (FS.out _ hb4)
         have HB4 := Lib.hid (FB.out _ hb4)
         clear hb4))
    all_goals
      subst hsz
      go_wp2
      go_ret
      exact ⟨ret_bool (by simp), HB4.out⟩
  · have key : ∀ W, Laid W → Calls Try.prog 16 #[.agg #[.int .i64 l1, .int .u32 p1], .agg #[.int .i64 l2, .int .u32 p2]] W fun e w' => e = .returned (.tuple #[.agg #[.int .i64 0, .int .u32 0], .int .i64 (codeLL (l1, p1) (l2, p2))]) ∧ Below W.heap.size W w' := fun W hW => by
      have := hF (l1, p1) (l2, p2) W h1 h2 hW
      rw [if_neg hc] at this
      exact this
    generalize codeLL (l1, p1) (l2, p2) = k at *
    have hk2 : (k != 0) = true := by simpa using hc
    clear hc
    go_enter Try.func5, Try.ntmps5
    go_wp2_with fail
    refine (key _ hXb).mono ?_
    rintro e w1 ⟨rfl, hb1⟩
    have hb1' := hb1.alloc hb1.size (.cells #[.int .i64 0, .int .u32 0] 24)
    have hbw := hb.trans (hb1'.mono hb.size)
    obtain ⟨c0, c1⟩ := HA.out.below hb1'
    obtain ⟨d0, d1⟩ := HB.out.below hb1'
    obtain ⟨g0, g1⟩ := LabAt.new w1 (0, 0) 24
    simp only at c0 c1 d0 d1
    have HC1 := Lib.hid (show LabAt (w1.alloc (.cells #[.int .i64 0, .int .u32 0] 24)) w1.heap.size (0, 0) from ⟨g0, g1⟩)
    clear hb1 hb1' g0 g1
    go_wp2_with fail
    refine (kc _).mono ?_
    rintro e w3 ⟨rfl, hb3⟩
    obtain ⟨g0, g1⟩ := HC1.out.below hb3
    have hbw3 := hbw.trans (hb3.mono hbw.size)
    simp at g0 g1
    clear hb3
    go_wp2
    go_ret
    exact ⟨ret_bool (by simp), hbw3⟩

set_option maxHeartbeats 1000000 in
theorem LabelMeets_with (hF : LMeetOk 18) (l1 : Int) (p1 : Nat) (l2 : Int) (p2 : Nat) (w : World) (h1 : p1 < 4294967296) (h2 : p2 < 4294967296) (hX : Laid w) :
    Calls Try.prog 6 #[.agg #[.int .i64 l1, .int .u32 p1], .agg #[.int .i64 l2, .int .u32 p2]] w fun e w' => e = .returned (.bool true) ∧ Below w.heap.size w w' := by
  obtain ⟨hA, hB, hb⟩ := twoBoxL l1 l2 p1 p2 w
  have HA := Lib.hid hA
  have HB := Lib.hid hB
  obtain ⟨a0, a1⟩ := hA
  obtain ⟨b0, b1⟩ := hB
  simp only at a0 a1 b0 b1
  have hXb := hX.below hb
  have kc := fun W => labelsCode_any l1 l2 p1 p2 W
  by_cases hc : codeLL (l1, p1) (l2, p2) = 0
  · obtain ⟨lj, pj, hj⟩ : ∃ lj pj, meetL (l1, p1) (l2, p2) = (lj, pj) := ⟨_, _, rfl⟩
    have key : ∀ W, Laid W → Calls Try.prog 18 #[.agg #[.int .i64 l1, .int .u32 p1], .agg #[.int .i64 l2, .int .u32 p2]] W fun e w' => e = .returned (.tuple #[.agg #[.int .i64 lj, .int .u32 pj], .int .i64 0]) ∧ Below W.heap.size W w' := fun W hW => by
      have := hF (l1, p1) (l2, p2) W h1 h2 hW
      rw [hc, if_pos rfl, hj] at this
      exact this
    have kj : ∀ W, Calls Try.prog 19 #[.agg #[.int .i64 l1, .int .u32 p1], .agg #[.int .i64 l2, .int .u32 p2]] W fun e w' => e = .returned (.agg #[.int .i64 lj, .int .u32 pj]) ∧ Below W.heap.size W w' := fun W => by
      have := Common_any l1 l2 p1 p2 W h1 h2
      rw [hj] at this
      exact this
    rw [hc] at kc
    clear hc hj
    go_enter Try.func6, Try.ntmps6
    go_wp2_with fail
    refine (key _ hXb).mono ?_
    rintro e w1 ⟨rfl, hb1⟩
    have hb1' := hb1.alloc hb1.size (.cells #[.int .i64 lj, .int .u32 (pj : Int)] 24)
    have hbw := hb.trans (hb1'.mono hb.size)
    obtain ⟨c0, c1⟩ := HA.out.below hb1'
    obtain ⟨d0, d1⟩ := HB.out.below hb1'
    obtain ⟨g0, g1⟩ := LabAt.new w1 (lj, pj) 24
    simp only at c0 c1 d0 d1 g0 g1
    clear hb1 hb1'
    have HA1 := Lib.hid (show LabAt (w1.alloc (.cells #[.int .i64 lj, .int .u32 (pj : Int)] 24)) w.heap.size (l1, p1) from ⟨c0, c1⟩)
    have HB1 := Lib.hid (show LabAt (w1.alloc (.cells #[.int .i64 lj, .int .u32 (pj : Int)] 24)) (w.heap.size + 1) (l2, p2) from ⟨d0, d1⟩)
    have HC1 := Lib.hid (show LabAt (w1.alloc (.cells #[.int .i64 lj, .int .u32 (pj : Int)] 24)) w1.heap.size (lj, pj) from ⟨g0, g1⟩)
    go_wp2_with fail
    refine (kc _).mono ?_
    rintro e w3 ⟨rfl, hb3⟩
    have hA3 := HA1.out.below hb3
    have hB3 := HB1.out.below hb3
    have hC3 := HC1.out.below hb3
    have hbw3 := hbw.trans (hb3.mono hbw.size)
    clear hb3
    generalize w1.heap.size = gc at *
    have HS3 := Lib.hid (show w3.drew.cell? ⟨gc, 0, none⟩ = some (.int .i64 lj) ∧ w3.drew.cell? ⟨gc, 1, none⟩ = some (.int .u32 (pj : Int)) ∧ w3.drew.cell? ⟨w.heap.size, 0, none⟩ = some (.int .i64 l1) ∧ w3.drew.cell? ⟨w.heap.size, 1, none⟩ = some (.int .u32 (p1 : Int)) ∧ w3.drew.cell? ⟨w.heap.size + 1, 0, none⟩ = some (.int .i64 l2) ∧ w3.drew.cell? ⟨w.heap.size + 1, 1, none⟩ = some (.int .u32 (p2 : Int)) from ⟨hC3.1, hC3.2, hA3.1, hA3.2, hB3.1, hB3.2⟩)
    have FS := Lib.hid (fun (W4 : World) (h : Below w3.drew.heap.size w3.drew W4) => show W4.cell? ⟨gc, 0, none⟩ = some (.int .i64 lj) ∧ W4.cell? ⟨gc, 1, none⟩ = some (.int .u32 (pj : Int)) ∧ W4.cell? ⟨w.heap.size, 0, none⟩ = some (.int .i64 l1) ∧ W4.cell? ⟨w.heap.size, 1, none⟩ = some (.int .u32 (p1 : Int)) ∧ W4.cell? ⟨w.heap.size + 1, 0, none⟩ = some (.int .i64 l2) ∧ W4.cell? ⟨w.heap.size + 1, 1, none⟩ = some (.int .u32 (p2 : Int)) from
      ⟨(LabAt.below (w := w3.drew) hC3 h).1, (LabAt.below (w := w3.drew) hC3 h).2, (LabAt.below (w := w3.drew) hA3 h).1, (LabAt.below (w := w3.drew) hA3 h).2, (LabAt.below (w := w3.drew) hB3 h).1, (LabAt.below (w := w3.drew) hB3 h).2⟩)
    have FB := Lib.hid (fun (W4 : World) (h : Below w3.drew.heap.size w3.drew W4) => show Below w.heap.size w W4 from (below_drewN hbw3 1).trans (Below.mono h (below_drewN hbw3 1).size))
    go_wp2
    generalize hsz : w.heap.size = sz at *
    go_region_held3 (fun w' => w'.cell? ⟨gc, 0, none⟩ = some (.int .i64 lj) ∧ w'.cell? ⟨gc, 1, none⟩ = some (.int .u32 (pj : Int)) ∧ w'.cell? ⟨sz, 0, none⟩ = some (.int .i64 l1) ∧ w'.cell? ⟨sz, 1, none⟩ = some (.int .u32 (p1 : Int)) ∧ w'.cell? ⟨sz + 1, 0, none⟩ = some (.int .i64 l2) ∧ w'.cell? ⟨sz + 1, 1, none⟩ = some (.int .u32 (p2 : Int))) (first | exact HS3.out | exact HS4.out | go_keep)
      (first
      | (go_at_call 19
         refine (kj _).mono ?_
         rintro e w4 ⟨rfl, hb4⟩
         have HS4 := Lib.hid (FS.out _ hb4)
         have HB4 := Lib.hid (FB.out _ hb4)
         clear hb4))
    all_goals
      subst hsz
      go_wp2
      go_ret
      exact ⟨ret_bool (by simp), HB4.out⟩
  · have key : ∀ W, Laid W → Calls Try.prog 18 #[.agg #[.int .i64 l1, .int .u32 p1], .agg #[.int .i64 l2, .int .u32 p2]] W fun e w' => e = .returned (.tuple #[.agg #[.int .i64 0, .int .u32 0], .int .i64 (codeLL (l1, p1) (l2, p2))]) ∧ Below W.heap.size W w' := fun W hW => by
      have := hF (l1, p1) (l2, p2) W h1 h2 hW
      rw [if_neg hc] at this
      exact this
    generalize codeLL (l1, p1) (l2, p2) = k at *
    have hk2 : (k != 0) = true := by simpa using hc
    clear hc
    go_enter Try.func6, Try.ntmps6
    go_wp2_with fail
    refine (key _ hXb).mono ?_
    rintro e w1 ⟨rfl, hb1⟩
    have hb1' := hb1.alloc hb1.size (.cells #[.int .i64 0, .int .u32 0] 24)
    have hbw := hb.trans (hb1'.mono hb.size)
    obtain ⟨c0, c1⟩ := HA.out.below hb1'
    obtain ⟨d0, d1⟩ := HB.out.below hb1'
    obtain ⟨g0, g1⟩ := LabAt.new w1 (0, 0) 24
    simp only at c0 c1 d0 d1
    have HC1 := Lib.hid (show LabAt (w1.alloc (.cells #[.int .i64 0, .int .u32 0] 24)) w1.heap.size (0, 0) from ⟨g0, g1⟩)
    clear hb1 hb1' g0 g1
    go_wp2_with fail
    refine (kc _).mono ?_
    rintro e w3 ⟨rfl, hb3⟩
    obtain ⟨g0, g1⟩ := HC1.out.below hb3
    have hbw3 := hbw.trans (hb3.mono hbw.size)
    simp at g0 g1
    clear hb3
    go_wp2
    go_ret
    exact ⟨ret_bool (by simp), hbw3⟩

set_option maxHeartbeats 1000000 in
theorem LabelNumbers_with (hF : LNumberOk 20) (l1 : Int) (p1 : Nat) (w : World) (h1 : p1 < 4294967296) (hX : Laid w) :
    Calls Try.prog 7 #[.agg #[.int .i64 l1, .int .u32 p1]] w fun e w' => e = .returned (.bool true) ∧ Below w.heap.size w w' := by
  have hb := (Below.refl w.heap.size w).alloc (Nat.le_refl _) (.cells #[.int .i64 l1, .int .u32 (p1 : Int)] 24)
  have HA := Lib.hid (LabAt.new w (l1, p1) 24)
  obtain ⟨a0, a1⟩ := HA.out
  simp only at a0 a1
  have hXb := hX.below hb
  have kc := fun W => LabelCheck_any l1 p1 W
  by_cases hc : codeL (l1, p1) = 0
  · obtain ⟨g1, g2, g3⟩ := codeL_zero hc
    simp only at g1 g2 g3
    have key : ∀ W, Laid W → Calls Try.prog 20 #[.agg #[.int .i64 l1, .int .u32 p1]] W fun e w' => e = .returned (.tuple #[.int .i64 (32 * l1 + p1), .int .i64 0]) ∧ Below W.heap.size W w' := fun W hW => by
      have := hF (l1, p1) W h1 hW
      rw [hc, if_pos rfl] at this
      exact this
    rw [hc] at kc
    clear hc
    go_enter Try.func7, Try.ntmps7
    go_wp2_with fail
    refine (key _ hXb).mono ?_
    rintro e w1 ⟨rfl, hb1⟩
    have HA1 := Lib.hid (HA.out.below hb1)
    obtain ⟨c0, c1⟩ := HA1.out
    simp only at c0 c1
    have hbw := hb.trans (hb1.mono hb.size)
    clear hb1
    go_wp2_with fail
    refine (kc _).mono ?_
    rintro e w2 ⟨rfl, hb2⟩
    obtain ⟨d0, d1⟩ := HA1.out.below hb2
    simp only at d0 d1
    have hbw2 := hbw.trans (hb2.mono hbw.size)
    clear hb2
    go_wp2
    go_ret
    exact ⟨ret_bool (by simp), hbw2⟩
  · have key : ∀ W, Laid W → Calls Try.prog 20 #[.agg #[.int .i64 l1, .int .u32 p1]] W fun e w' => e = .returned (.tuple #[.int .i64 0, .int .i64 (codeL (l1, p1))]) ∧ Below W.heap.size W w' := fun W hW => by
      have := hF (l1, p1) W h1 hW
      rw [if_neg hc] at this
      exact this
    generalize codeL (l1, p1) = k at *
    have hk2 : (k != 0) = true := by simpa using hc
    clear hc
    go_enter Try.func7, Try.ntmps7
    go_wp2_with fail
    refine (key _ hXb).mono ?_
    rintro e w1 ⟨rfl, hb1⟩
    obtain ⟨c0, c1⟩ := HA.out.below hb1
    simp only at c0 c1
    have hbw := hb.trans (hb1.mono hb.size)
    clear hb1
    go_wp2_with fail
    refine (kc _).mono ?_
    rintro e w2 ⟨rfl, hb2⟩
    have hbw2 := hbw.trans (hb2.mono hbw.size)
    clear hb2
    go_wp2
    go_ret
    exact ⟨ret_bool (by simp), hbw2⟩

end Go.Proofs.Ytffhklfidgiemaa
