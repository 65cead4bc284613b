/- The law LabelLaws. -/
import Derived.Test.YtffhklfidgiemaaLawL4
namespace Go.Proofs.Ytffhklfidgiemaa
open Go.RowKit

theorem lab_lt {a : Lab} (h : LabOk a) : a.2 < 4294967296 := by have := h.2.2; omega

set_option maxRecDepth 100000 in
set_option maxHeartbeats 2000000 in
theorem LabelLaws_with (hJ : LJoinOk 16) (hM : LMeetOk 18) (hU : LUnderOk 13) (l1 : Int) (p1 : Nat) (l2 : Int) (p2 : Nat) (l3 : Int) (p3 : Nat) (w : World) (h1 : p1 < 4294967296) (h2 : p2 < 4294967296) (_h3 : p3 < 4294967296) (hX : Laid w) :
    Calls Try.prog 9 #[.agg #[.int .i64 l1, .int .u32 p1], .agg #[.int .i64 l2, .int .u32 p2], .agg #[.int .i64 l3, .int .u32 p3]] w fun e w' => e = .returned (.bool true) ∧ Below w.heap.size w w' := by
  by_cases hab : LabOk (l1, p1) ∧ LabOk (l2, p2)
  · obtain ⟨ha, hb⟩ := hab
    obtain ⟨lj, pj, hj⟩ : ∃ lj pj, joinL (l1, p1) (l2, p2) = (lj, pj) := ⟨_, _, rfl⟩
    obtain ⟨lm, pm, hm⟩ : ∃ lm pm, meetL (l1, p1) (l2, p2) = (lm, pm) := ⟨_, _, rfl⟩
    have hjok := join_ok ha hb
    have hmok := meet_ok ha hb
    rw [hj] at hjok
    rw [hm] at hmok
    have KJ : ∀ (a b c : Lab), LabOk a → LabOk b → joinL a b = c → ∀ W, Laid W → Calls Try.prog 16 #[labV a, labV b] W fun e w' => e = .returned (.tuple #[labV c, .int .i64 0]) ∧ Below W.heap.size W w' := fun a b c oa ob e W hW => by
      have := hJ a b W (lab_lt oa) (lab_lt ob) hW
      rw [codeLL_ok oa ob, if_pos rfl, e] at this
      exact this
    have KM : ∀ (a b c : Lab), LabOk a → LabOk b → meetL a b = c → ∀ W, Laid W → Calls Try.prog 18 #[labV a, labV b] W fun e w' => e = .returned (.tuple #[labV c, .int .i64 0]) ∧ Below W.heap.size W w' := fun a b c oa ob e W hW => by
      have := hM a b W (lab_lt oa) (lab_lt ob) hW
      rw [codeLL_ok oa ob, if_pos rfl, e] at this
      exact this
    have KU : ∀ (a b : Lab) (u : Bool), LabOk a → LabOk b → underL a b = u → ∀ W, Laid W → Calls Try.prog 13 #[labV a, labV b] W fun e w' => e = .returned (.tuple #[.bool u, .int .i64 0]) ∧ Below W.heap.size W w' := fun a b u oa ob e W hW => by
      have := hU a b W (lab_lt oa) (lab_lt ob) hW
      rw [codeLL_ok oa ob, e, show (((0 : Int) == 0) && u) = u from rfl] at this
      exact this
    have KC : ∀ (l : Int) (p : Nat), LabOk (l, p) → ∀ W, Calls Try.prog 12 #[.agg #[.int .i64 l, .int .u32 p]] W fun e w' => e = .returned (.int .i64 0) ∧ Below W.heap.size W w' := fun l p o W => by
      have := LabelCheck_any l p W
      rw [codeL_ok o] at this
      exact this
    by_cases hc : LabOk (l3, p3)
    · obtain ⟨lr, pr, hr⟩ : ∃ lr pr, meetL (l3, p3) (l1, p1) = (lr, pr) := ⟨_, _, rfl⟩
      obtain ⟨lt, pt, ht⟩ : ∃ lt pt, meetL (l3, p3) (l2, p2) = (lt, pt) := ⟨_, _, rfl⟩
      obtain ⟨lp, pp, hp⟩ : ∃ lp pp, meetL (l3, p3) (lj, pj) = (lp, pp) := ⟨_, _, rfl⟩
      have hrok := meet_ok hc ha
      have htok := meet_ok hc hb
      rw [hr] at hrok
      rw [ht] at htok
      have hq : joinL (lr, pr) (lt, pt) = (lp, pp) := by rw [← hr, ← ht, ← hp, ← hj]; exact meet_join.symm
      have e1 : underL (lj, pj) (l3, p3) = (underL (l1, p1) (l3, p3) && underL (l2, p2) (l3, p3)) := by rw [← hj]; exact join_under
      have e2 : underL (l3, p3) (lm, pm) = (underL (l3, p3) (l1, p1) && underL (l3, p3) (l2, p2)) := by rw [← hm]; exact meet_under
      exact LabelLaws_core l1 p1 l2 p2 l3 p3 lj pj lm pm lp pp lr pr lt pt (underL (l1, p1) (l3, p3)) (underL (l2, p2) (l3, p3)) (underL (l3, p3) (l1, p1)) (underL (l3, p3) (l2, p2)) w hX
        (KJ (l1, p1) (l2, p2) (lj, pj) ha hb hj) (KM (l1, p1) (l2, p2) (lm, pm) ha hb hm) (KC l1 p1 ha) (KC l2 p2 hb) (KC l3 p3 hc)
        (KU (l1, p1) (l3, p3) _ ha hc rfl) (KU (l2, p2) (l3, p3) _ hb hc rfl) (KU (lj, pj) (l3, p3) _ hjok hc e1) (KU (l3, p3) (lm, pm) _ hc hmok e2) (KU (l3, p3) (l1, p1) _ hc ha rfl) (KU (l3, p3) (l2, p2) _ hc hb rfl)
        (KM (l3, p3) (lj, pj) (lp, pp) hc hjok hp) (KM (l3, p3) (l1, p1) (lr, pr) hc ha hr) (KM (l3, p3) (l2, p2) (lt, pt) hc hb ht) (KJ (lr, pr) (lt, pt) (lp, pp) hrok htok hq)
    · have kj : ∀ W, Laid W → Calls Try.prog 16 #[.agg #[.int .i64 l1, .int .u32 p1], .agg #[.int .i64 l2, .int .u32 p2]] W fun e w' => e = .returned (.tuple #[.agg #[.int .i64 lj, .int .u32 pj], .int .i64 0]) ∧ Below W.heap.size W w' := KJ (l1, p1) (l2, p2) (lj, pj) ha hb hj
      have km : ∀ W, Laid W → Calls Try.prog 18 #[.agg #[.int .i64 l1, .int .u32 p1], .agg #[.int .i64 l2, .int .u32 p2]] W fun e w' => e = .returned (.tuple #[.agg #[.int .i64 lm, .int .u32 pm], .int .i64 0]) ∧ Below W.heap.size W w' := KM (l1, p1) (l2, p2) (lm, pm) ha hb hm
      have kca := KC l1 p1 ha
      have kcb := KC l2 p2 hb
      have kcc := fun W => LabelCheck_any l3 p3 W
      rw [codeL_bad hc] at kcc
      obtain ⟨hA, hB, hC, hbw⟩ := threeBoxL l1 p1 l2 p2 l3 p3 w
      have HA := Lib.hid hA
      have HB := Lib.hid hB
      have HC := Lib.hid hC
      clear hA hB hC KJ KM KU KC hjok hmok hj hm ha hb hc
      go_enter Try.func9, Try.ntmps9
      obtain ⟨a0, a1⟩ := HA.out
      obtain ⟨b0, b1⟩ := HB.out
      simp only at a0 a1 b0 b1
      go_wp2_with fail
      refine (kj _ (hX.below hbw)).mono ?_
      rintro e w1 ⟨rfl, hn⟩
      have hn2 := hn.alloc hn.size (.cells #[.int .i64 lj, .int .u32 (pj : Int)] 24)
      replace HA := Lib.hid (HA.out.below hn2)
      replace HB := Lib.hid (HB.out.below hn2)
      replace HC := Lib.hid (HC.out.below hn2)
      replace hbw := hbw.trans (hn2.mono hbw.size)
      clear hn hn2 a0 a1 b0 b1
      obtain ⟨a0, a1⟩ := HA.out
      obtain ⟨b0, b1⟩ := HB.out
      simp only at a0 a1 b0 b1
      go_wp2_with fail
      refine (km _ (hX.below hbw)).mono ?_
      rintro e w2 ⟨rfl, hn⟩
      have hn2 := hn.alloc hn.size (.cells #[.int .i64 lm, .int .u32 (pm : Int)] 24)
      replace HA := Lib.hid (HA.out.below hn2)
      replace HB := Lib.hid (HB.out.below hn2)
      replace HC := Lib.hid (HC.out.below hn2)
      replace hbw := hbw.trans (hn2.mono hbw.size)
      clear hn hn2 a0 a1 b0 b1
      obtain ⟨a0, a1⟩ := HA.out
      simp only at a0 a1
      go_wp2_with fail
      refine (kca _).mono ?_
      rintro e w3 ⟨rfl, hn⟩
      replace HB := Lib.hid (HB.out.below hn)
      replace HC := Lib.hid (HC.out.below hn)
      replace hbw := hbw.trans (hn.mono hbw.size)
      clear hn a0 a1
      obtain ⟨b0, b1⟩ := HB.out
      simp only at b0 b1
      go_wp2_with fail
      refine (kcb _).mono ?_
      rintro e w4 ⟨rfl, hn⟩
      replace HC := Lib.hid (HC.out.below hn)
      replace hbw := hbw.trans (hn.mono hbw.size)
      clear hn b0 b1
      obtain ⟨c0, c1⟩ := HC.out
      simp only at c0 c1
      go_wp2_with fail
      refine (kcc _).mono ?_
      rintro e w5 ⟨rfl, hn⟩
      replace hbw := hbw.trans (hn.mono hbw.size)
      clear hn
      go_wp2
      go_ret
      exact ⟨rfl, hbw⟩
  · have kj : ∀ W, Laid W → Calls Try.prog 16 #[.agg #[.int .i64 l1, .int .u32 p1], .agg #[.int .i64 l2, .int .u32 p2]] W fun e w' => e = .returned (.tuple #[.agg #[.int .i64 0, .int .u32 0], .int .i64 4]) ∧ Below W.heap.size W w' := fun W hW => by
      have := hJ (l1, p1) (l2, p2) W h1 h2 hW
      rw [codeLL_bad hab, if_neg (by decide)] at this
      exact this
    have km : ∀ W, Laid W → Calls Try.prog 18 #[.agg #[.int .i64 l1, .int .u32 p1], .agg #[.int .i64 l2, .int .u32 p2]] W fun e w' => e = .returned (.tuple #[.agg #[.int .i64 0, .int .u32 0], .int .i64 4]) ∧ Below W.heap.size W w' := fun W hW => by
      have := hM (l1, p1) (l2, p2) W h1 h2 hW
      rw [codeLL_bad hab, if_neg (by decide)] at this
      exact this
    have kca := fun W => LabelCheck_any l1 p1 W
    have kcb := fun W => LabelCheck_any l2 p2 W
    have hcases : codeL (l1, p1) = 4 ∨ codeL (l1, p1) = 0 ∧ codeL (l2, p2) = 4 := by
      by_cases ha : LabOk (l1, p1)
      · exact .inr ⟨codeL_ok ha, codeL_bad fun hb => hab ⟨ha, hb⟩⟩
      · exact .inl (codeL_bad ha)
    obtain ⟨hA, hB, hC, hbw⟩ := threeBoxL l1 p1 l2 p2 l3 p3 w
    have HA := Lib.hid hA
    have HB := Lib.hid hB
    clear hA hB hC hab
    go_enter Try.func9, Try.ntmps9
    obtain ⟨a0, a1⟩ := HA.out
    obtain ⟨b0, b1⟩ := HB.out
    simp only at a0 a1 b0 b1
    go_wp2_with fail
    refine (kj _ (hX.below hbw)).mono ?_
    rintro e w1 ⟨rfl, hn⟩
    have hn2 := hn.alloc hn.size (.cells #[.int .i64 0, .int .u32 0] 24)
    replace HA := Lib.hid (HA.out.below hn2)
    replace HB := Lib.hid (HB.out.below hn2)
    replace hbw := hbw.trans (hn2.mono hbw.size)
    clear hn hn2 a0 a1 b0 b1
    obtain ⟨a0, a1⟩ := HA.out
    obtain ⟨b0, b1⟩ := HB.out
    simp only at a0 a1 b0 b1
    go_wp2_with fail
    refine (km _ (hX.below hbw)).mono ?_
    rintro e w2 ⟨rfl, hn⟩
    have hn2 := hn.alloc hn.size (.cells #[.int .i64 0, .int .u32 0] 24)
    replace HA := Lib.hid (HA.out.below hn2)
    replace HB := Lib.hid (HB.out.below hn2)
    replace hbw := hbw.trans (hn2.mono hbw.size)
    clear hn hn2 a0 a1 b0 b1
    obtain ⟨a0, a1⟩ := HA.out
    simp only at a0 a1
    go_wp2_with fail
    refine (kca _).mono ?_
    rintro e w3 ⟨rfl, hn⟩
    replace HB := Lib.hid (HB.out.below hn)
    replace hbw := hbw.trans (hn.mono hbw.size)
    clear hn a0 a1
    rcases hcases with hx | ⟨hx, hy⟩
    · rw [hx]
      clear hx
      go_wp2
      go_ret
      exact ⟨rfl, hbw⟩
    · rw [hx]
      clear hx
      obtain ⟨b0, b1⟩ := HB.out
      simp only at b0 b1
      go_wp2_with fail
      refine (kcb _).mono ?_
      rintro e w4 ⟨rfl, hn⟩
      replace hbw := hbw.trans (hn.mono hbw.size)
      rw [hy]
      clear hn hy b0 b1
      go_wp2
      go_ret
      exact ⟨rfl, hbw⟩

end Go.Proofs.Ytffhklfidgiemaa
