/- label.Check, checkBoth, Under, Join, Meet, Number, Label. -/
import Derived.Test.YtdiaglaokgehbaaWL1
import Derived.Test.YtdiaglaokgehbaaSetW
namespace Go.Proofs.Ytdiaglaokgehbaa
open Go.RowKit

set_option maxHeartbeats 1000000 in
theorem lCheck_any (l : Int) (p : Nat) (w : World) :
    Calls Try.prog 54 #[.agg #[.int .i64 l, .int .u32 p]] w fun e w' => e = .returned (.int .i64 (codeL (l, p))) ∧ Below w.heap.size w w' := by
  have hb := (Below.refl w.heap.size w).alloc (Nat.le_refl _) (.cells #[.int .i64 l, .int .u32 (p : Int)] 40)
  obtain ⟨c0, c1⟩ := LabAt.new w (l, p) 40
  simp only at c0 c1
  by_cases h0 : l < 0
  · have HC := Lib.hid (codeL_bad (a := (l, p)) fun h => by have := h.1; simp only at this; omega)
    go_enter Try.func54, Try.ntmps54
    go_wp2
    go_ret
    exact ⟨ret_int HC.out.symm, hb⟩
  · by_cases h1 : 3 < l
    · have HC := Lib.hid (codeL_bad (a := (l, p)) fun h => by have := h.2.1; simp only at this; omega)
      go_enter Try.func54, Try.ntmps54
      go_wp2
      go_ret
      exact ⟨ret_int HC.out.symm, hb⟩
    · by_cases h2 : p < 32
      · have HC := Lib.hid (codeL_ok (a := (l, p)) ⟨by simp only; omega, by simp only; omega, h2⟩)
        go_enter Try.func54, Try.ntmps54
        go_wp2
        go_ret
        exact ⟨ret_int HC.out.symm, hb⟩
      · have HC := Lib.hid (codeL_bad (a := (l, p)) fun h => h2 h.2.2)
        go_enter Try.func54, Try.ntmps54
        go_wp2
        go_ret
        exact ⟨ret_int HC.out.symm, hb⟩
theorem LCheck_ok : LCheckOk 54 := fun a w _ _ => lCheck_any a.1 a.2 w

set_option maxHeartbeats 1000000 in
theorem lBoth_any (l1 l2 : Int) (p1 p2 : Nat) (w : World) :
    Calls Try.prog 64 #[.agg #[.int .i64 l1, .int .u32 p1], .agg #[.int .i64 l2, .int .u32 p2]] w fun e w' => e = .returned (.int .i64 (codeLL (l1, p1) (l2, p2))) ∧ Below w.heap.size w w' := by
  have hT := twoBox (l1, p1) (l2, p2) w
  obtain ⟨a0, a1⟩ := hT.atA
  have hB0 := hT.atB
  obtain ⟨b0, b1⟩ := hB0
  have hb := hT.bel
  simp only at a0 a1 b0 b1 hb
  have HR := Lib.hid (show codeLL (l1, p1) (l2, p2) = if codeL (l1, p1) = 0 then codeL (l2, p2) else codeL (l1, p1) from rfl)
  have kA := fun W => lCheck_any l1 p1 W
  have kB := fun W => lCheck_any l2 p2 W
  generalize codeLL (l1, p1) (l2, p2) = kk at *
  generalize codeL (l1, p1) = k1 at *
  generalize codeL (l2, p2) = k2 at *
  generalize hw2 : ((w.alloc (.cells #[.int .i64 l1, .int .u32 (p1 : Int)] 40)).alloc (.cells #[.int .i64 l2, .int .u32 (p2 : Int)] 40)) = w2 at *
  have HW2 := Lib.hid hw2
  have HLb := Lib.hid (show LabAt w2 (w.heap.size + 1) (l2, p2) from ⟨b0, b1⟩)
  clear hT
  by_cases hk : k1 = 0
  · subst hk
    rw [if_pos rfl] at HR
    go_enter Try.func64, Try.ntmps64
    go_wp2_with fail
    refine (kA _).mono ?_
    rintro e w3 ⟨rfl, hb3⟩
    obtain ⟨d0, d1⟩ := HLb.out.below (by first | exact hb3 | (rw [← HW2.out]; exact hb3))
    simp only at d0 d1
    have hb4 := hb.trans (hb3.mono hb.size)
    clear hb3
    go_wp2_with fail
    refine (kB _).mono ?_
    rintro e w5 ⟨rfl, hb5⟩
    have hb6 := hb4.trans (hb5.mono hb4.size)
    clear hb5
    go_wp2
    go_ret
    exact ⟨ret_int HR.out.symm, hb6⟩
  · rw [if_neg hk] at HR
    have hq : (k1 != 0) = true := by simpa using hk
    clear hk
    go_enter Try.func64, Try.ntmps64
    go_wp2_with fail
    refine (kA _).mono ?_
    rintro e w3 ⟨rfl, hb3⟩
    have hb4 := hb.trans (hb3.mono hb.size)
    clear hb3
    go_wp2
    go_ret
    exact ⟨ret_int HR.out.symm, hb4⟩

set_option maxHeartbeats 1000000 in
theorem lUnder_any (l1 l2 : Int) (p1 p2 : Nat) (w : World) (h1 : p1 < 4294967296) (h2 : p2 < 4294967296) :
    Calls Try.prog 56 #[.agg #[.int .i64 l1, .int .u32 p1], .agg #[.int .i64 l2, .int .u32 p2]] w fun e w' => e = .returned (.tuple #[.bool (codeLL (l1, p1) (l2, p2) == 0 && underL (l1, p1) (l2, p2)), .int .i64 (codeLL (l1, p1) (l2, p2))]) ∧ Below w.heap.size w w' := by
  have hT := twoBox (l1, p1) (l2, p2) w
  have HA := Lib.hid hT.atA
  have HB := Lib.hid hT.atB
  obtain ⟨a0, a1⟩ := hT.atA
  obtain ⟨b0, b1⟩ := hT.atB
  have hb := hT.bel
  simp only at a0 a1 b0 b1 hb
  have HR := Lib.hid (show underL (l1, p1) (l2, p2) = (decide (l1 ≤ l2) && sub p1 p2) from rfl)
  have kA := fun W => lBoth_any l1 l2 p1 p2 W
  have hs := u32_subB h1 h2
  generalize underL (l1, p1) (l2, p2) = u at *
  clear hT
  by_cases hc : codeLL (l1, p1) (l2, p2) = 0
  · rw [hc] at kA ⊢
    rw [show (((0 : Int) == 0) && u) = u from rfl]
    clear hc
    go_enter Try.func56, Try.ntmps56
    go_wp2_with fail
    refine (kA _).mono ?_
    rintro e w3 ⟨rfl, hb3⟩
    obtain ⟨c0, c1⟩ := HA.out.below hb3
    obtain ⟨d0, d1⟩ := HB.out.below hb3
    simp only at c0 c1 d0 d1
    have hb4 := hb.trans (hb3.mono hb.size)
    clear hb3
    by_cases hl : l1 ≤ l2
    · rw [decide_eq_true hl, Bool.true_and] at HR
      go_wp2
      go_ret2
      exact ⟨by rw [HR.out]; rfl, hb4⟩
    · rw [decide_eq_false hl, Bool.false_and] at HR
      go_wp2
      go_ret2
      exact ⟨by rw [HR.out]; rfl, hb4⟩
  · rw [show (codeLL (l1, p1) (l2, p2) == 0) = false from by simpa using hc, Bool.false_and]
    generalize codeLL (l1, p1) (l2, p2) = k at *
    have hq : (k != 0) = true := by simpa using hc
    clear hc
    go_enter Try.func56, Try.ntmps56
    go_wp2_with fail
    refine (kA _).mono ?_
    rintro e w3 ⟨rfl, hb3⟩
    have hb4 := hb.trans (hb3.mono hb.size)
    clear hb3
    go_wp2
    go_ret2
    exact ⟨rfl, hb4⟩
theorem LUnder_ok : LUnderOk 56 := fun a b w h1 h2 _ => lUnder_any a.1 b.1 a.2 b.2 w h1 h2

set_option maxHeartbeats 1000000 in
theorem lJoin_any (l1 l2 : Int) (p1 p2 : Nat) (w : World) (h1 : p1 < 4294967296) (h2 : p2 < 4294967296) :
    Calls Try.prog 55 #[.agg #[.int .i64 l1, .int .u32 p1], .agg #[.int .i64 l2, .int .u32 p2]] w fun e w' => e = .returned (.tuple #[labV (if codeLL (l1, p1) (l2, p2) = 0 then joinL (l1, p1) (l2, p2) else (0, 0)), .int .i64 (codeLL (l1, p1) (l2, p2))]) ∧ Below w.heap.size w w' := by
  have hT := twoBox (l1, p1) (l2, p2) w
  have hT3 := hT.three
  simp only at hT3
  obtain ⟨a0, b0, z0, hbel⟩ := hT3
  have hop := u32_or_nat p1 p2 h1 h2
  have hmx : (if l1 < l2 then l2 else l1) = (joinL (l1, p1) (l2, p2)).1 := rfl
  have hmp : p1 ||| p2 = (joinL (l1, p1) (l2, p2)).2 := rfl
  obtain ⟨lj, pj, hj⟩ : ∃ lj pj, joinL (l1, p1) (l2, p2) = (lj, pj) := ⟨_, _, rfl⟩
  rw [hj] at hmx hmp ⊢
  simp only at hmx hmp
  rw [hmp] at hop
  clear hmp hj
  have kA := fun W => lBoth_any l1 l2 p1 p2 W
  generalize hw3 : (((w.alloc (.cells #[.int .i64 l1, .int .u32 (p1 : Int)] 40)).alloc (.cells #[.int .i64 l2, .int .u32 (p2 : Int)] 40)).alloc (.cells #[.int .i64 0, .int .u32 0] 40)) = w3 at *
  have HA := Lib.hid a0
  have HB := Lib.hid b0
  have HZ := Lib.hid z0
  obtain ⟨ca0, ca1⟩ := ltwo_cells a0
  obtain ⟨cb0, cb1⟩ := ltwo_cells b0
  clear hT a0 b0 z0
  by_cases hc : codeLL (l1, p1) (l2, p2) = 0
  · rw [hc] at kA ⊢
    rw [if_pos rfl]
    clear hc
    go_enter Try.func55, Try.ntmps55
    go_wp2_with fail
    refine (kA _).mono ?_
    rintro e w4 ⟨rfl, hb4⟩
    have a4 := lblk_keep hb4 HA.out
    have b4 := lblk_keep hb4 HB.out
    have z4 := lblk_keep hb4 HZ.out
    obtain ⟨da0, da1⟩ := ltwo_cells a4
    obtain ⟨db0, db1⟩ := ltwo_cells b4
    have f0 : w4.frozen? ⟨w.heap.size + 1 + 1, 0, none⟩ = false := by simp [World.frozen?, z4]
    have f1 : w4.frozen? ⟨w.heap.size + 1 + 1, 1, none⟩ = false := by simp [World.frozen?, z4]
    obtain ⟨dz0, dz1⟩ := ltwo_cells z4
    have HF := Lib.hid (ltwo_cells (ltwo_set1 (u := .int .u32 (pj : Int)) (ltwo_set0 (u := .int .i64 lj) z4)))
    have hb5 := Lib.hid (((hbel.trans (hb4.mono hbel.size)).setCell (p := ⟨w.heap.size + 1 + 1, 0, none⟩) (by simp; omega) (.int .i64 lj)).setCell (p := ⟨w.heap.size + 1 + 1, 1, none⟩) (by simp; omega) (.int .u32 (pj : Int)))
    clear hb4 hbel a4 b4 z4
    go_wp2
    refine bodyPost_ret (v := .tuple #[.agg #[.int .i64 lj, .int .u32 (pj : Int)], .int .i64 0]) (by simp [results, Try.results55, go_sem, HF.out.1, HF.out.2]) rfl ?_
    exact ⟨rfl, hb5.out⟩
  · rw [if_neg hc]
    generalize codeLL (l1, p1) (l2, p2) = k at *
    have hq : (k != 0) = true := by simpa using hc
    clear hc
    go_enter Try.func55, Try.ntmps55
    go_wp2_with fail
    refine (kA _).mono ?_
    rintro e w4 ⟨rfl, hb4⟩
    have z4 := lblk_keep hb4 HZ.out
    have f0 : w4.frozen? ⟨w.heap.size + 1 + 1, 0, none⟩ = false := by simp [World.frozen?, z4]
    have f1 : w4.frozen? ⟨w.heap.size + 1 + 1, 1, none⟩ = false := by simp [World.frozen?, z4]
    obtain ⟨dz0, dz1⟩ := ltwo_cells z4
    have HF := Lib.hid (ltwo_cells (ltwo_set1 (u := .int .u32 0) (ltwo_set0 (u := .int .i64 0) z4)))
    have hb5 := Lib.hid (((hbel.trans (hb4.mono hbel.size)).setCell (p := ⟨w.heap.size + 1 + 1, 0, none⟩) (by simp; omega) (.int .i64 0)).setCell (p := ⟨w.heap.size + 1 + 1, 1, none⟩) (by simp; omega) (.int .u32 0))
    clear hb4 hbel z4
    go_wp2
    refine bodyPost_ret (v := .tuple #[.agg #[.int .i64 0, .int .u32 0], .int .i64 k]) (by simp [results, Try.results55, go_sem, HF.out.1, HF.out.2]) rfl ?_
    exact ⟨rfl, hb5.out⟩
theorem LJoin_ok : LJoinOk 55 := fun a b w h1 h2 _ => lJoin_any a.1 b.1 a.2 b.2 w h1 h2

set_option maxHeartbeats 1000000 in
theorem lMeet_any (l1 l2 : Int) (p1 p2 : Nat) (w : World) (h1 : p1 < 4294967296) (h2 : p2 < 4294967296) :
    Calls Try.prog 59 #[.agg #[.int .i64 l1, .int .u32 p1], .agg #[.int .i64 l2, .int .u32 p2]] w fun e w' => e = .returned (.tuple #[labV (if codeLL (l1, p1) (l2, p2) = 0 then meetL (l1, p1) (l2, p2) else (0, 0)), .int .i64 (codeLL (l1, p1) (l2, p2))]) ∧ Below w.heap.size w w' := by
  have hT := twoBox (l1, p1) (l2, p2) w
  have hT3 := hT.three
  simp only at hT3
  obtain ⟨a0, b0, z0, hbel⟩ := hT3
  have hop := u32_and_nat p1 p2 h1 h2
  have hmx : (if l2 < l1 then l2 else l1) = (meetL (l1, p1) (l2, p2)).1 := rfl
  have hmp : p1 &&& p2 = (meetL (l1, p1) (l2, p2)).2 := rfl
  obtain ⟨lj, pj, hj⟩ : ∃ lj pj, meetL (l1, p1) (l2, p2) = (lj, pj) := ⟨_, _, rfl⟩
  rw [hj] at hmx hmp ⊢
  simp only at hmx hmp
  rw [hmp] at hop
  clear hmp hj
  have kA := fun W => lBoth_any l1 l2 p1 p2 W
  generalize hw3 : (((w.alloc (.cells #[.int .i64 l1, .int .u32 (p1 : Int)] 40)).alloc (.cells #[.int .i64 l2, .int .u32 (p2 : Int)] 40)).alloc (.cells #[.int .i64 0, .int .u32 0] 40)) = w3 at *
  have HA := Lib.hid a0
  have HB := Lib.hid b0
  have HZ := Lib.hid z0
  obtain ⟨ca0, ca1⟩ := ltwo_cells a0
  obtain ⟨cb0, cb1⟩ := ltwo_cells b0
  clear hT a0 b0 z0
  by_cases hc : codeLL (l1, p1) (l2, p2) = 0
  · rw [hc] at kA ⊢
    rw [if_pos rfl]
    clear hc
    go_enter Try.func59, Try.ntmps59
    go_wp2_with fail
    refine (kA _).mono ?_
    rintro e w4 ⟨rfl, hb4⟩
    have a4 := lblk_keep hb4 HA.out
    have b4 := lblk_keep hb4 HB.out
    have z4 := lblk_keep hb4 HZ.out
    obtain ⟨da0, da1⟩ := ltwo_cells a4
    obtain ⟨db0, db1⟩ := ltwo_cells b4
    have f0 : w4.frozen? ⟨w.heap.size + 1 + 1, 0, none⟩ = false := by simp [World.frozen?, z4]
    have f1 : w4.frozen? ⟨w.heap.size + 1 + 1, 1, none⟩ = false := by simp [World.frozen?, z4]
    obtain ⟨dz0, dz1⟩ := ltwo_cells z4
    have HF := Lib.hid (ltwo_cells (ltwo_set1 (u := .int .u32 (pj : Int)) (ltwo_set0 (u := .int .i64 lj) z4)))
    have hb5 := Lib.hid (((hbel.trans (hb4.mono hbel.size)).setCell (p := ⟨w.heap.size + 1 + 1, 0, none⟩) (by simp; omega) (.int .i64 lj)).setCell (p := ⟨w.heap.size + 1 + 1, 1, none⟩) (by simp; omega) (.int .u32 (pj : Int)))
    clear hb4 hbel a4 b4 z4
    go_wp2
    refine bodyPost_ret (v := .tuple #[.agg #[.int .i64 lj, .int .u32 (pj : Int)], .int .i64 0]) (by simp [results, Try.results59, go_sem, HF.out.1, HF.out.2]) rfl ?_
    exact ⟨rfl, hb5.out⟩
  · rw [if_neg hc]
    generalize codeLL (l1, p1) (l2, p2) = k at *
    have hq : (k != 0) = true := by simpa using hc
    clear hc
    go_enter Try.func59, Try.ntmps59
    go_wp2_with fail
    refine (kA _).mono ?_
    rintro e w4 ⟨rfl, hb4⟩
    have z4 := lblk_keep hb4 HZ.out
    have f0 : w4.frozen? ⟨w.heap.size + 1 + 1, 0, none⟩ = false := by simp [World.frozen?, z4]
    have f1 : w4.frozen? ⟨w.heap.size + 1 + 1, 1, none⟩ = false := by simp [World.frozen?, z4]
    obtain ⟨dz0, dz1⟩ := ltwo_cells z4
    have HF := Lib.hid (ltwo_cells (ltwo_set1 (u := .int .u32 0) (ltwo_set0 (u := .int .i64 0) z4)))
    have hb5 := Lib.hid (((hbel.trans (hb4.mono hbel.size)).setCell (p := ⟨w.heap.size + 1 + 1, 0, none⟩) (by simp; omega) (.int .i64 0)).setCell (p := ⟨w.heap.size + 1 + 1, 1, none⟩) (by simp; omega) (.int .u32 0))
    clear hb4 hbel z4
    go_wp2
    refine bodyPost_ret (v := .tuple #[.agg #[.int .i64 0, .int .u32 0], .int .i64 k]) (by simp [results, Try.results59, go_sem, HF.out.1, HF.out.2]) rfl ?_
    exact ⟨rfl, hb5.out⟩
theorem LMeet_ok : LMeetOk 59 := fun a b w h1 h2 _ => lMeet_any a.1 b.1 a.2 b.2 w h1 h2

end Go.Proofs.Ytdiaglaokgehbaa
