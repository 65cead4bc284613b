/- The law LabelLaws, where all labels may be (this text is written by wip/mkL3.py). -/
import Derived.Test.YtffhklfidgiemaaLawL1
namespace Go.Proofs.Ytffhklfidgiemaa
open Go.RowKit

theorem threeBoxL (l1 : Int) (p1 : Nat) (l2 : Int) (p2 : Nat) (l3 : Int) (p3 : Nat) (w : World) : LabAt (((w.alloc (.cells #[.int .i64 l1, .int .u32 (p1 : Int)] 24)).alloc (.cells #[.int .i64 l2, .int .u32 (p2 : Int)] 24)).alloc (.cells #[.int .i64 l3, .int .u32 (p3 : Int)] 24)) w.heap.size (l1, p1) ∧ LabAt (((w.alloc (.cells #[.int .i64 l1, .int .u32 (p1 : Int)] 24)).alloc (.cells #[.int .i64 l2, .int .u32 (p2 : Int)] 24)).alloc (.cells #[.int .i64 l3, .int .u32 (p3 : Int)] 24)) (w.heap.size + 1) (l2, p2) ∧ LabAt (((w.alloc (.cells #[.int .i64 l1, .int .u32 (p1 : Int)] 24)).alloc (.cells #[.int .i64 l2, .int .u32 (p2 : Int)] 24)).alloc (.cells #[.int .i64 l3, .int .u32 (p3 : Int)] 24)) (w.heap.size + 1 + 1) (l3, p3) ∧ Below w.heap.size w (((w.alloc (.cells #[.int .i64 l1, .int .u32 (p1 : Int)] 24)).alloc (.cells #[.int .i64 l2, .int .u32 (p2 : Int)] 24)).alloc (.cells #[.int .i64 l3, .int .u32 (p3 : Int)] 24)) := by
  have h := twoBox (l1, p1) (l2, p2) w
  have hb := (Below.refl ((w.alloc (.cells #[.int .i64 l1, .int .u32 (p1 : Int)] 24)).alloc (.cells #[.int .i64 l2, .int .u32 (p2 : Int)] 24)).heap.size ((w.alloc (.cells #[.int .i64 l1, .int .u32 (p1 : Int)] 24)).alloc (.cells #[.int .i64 l2, .int .u32 (p2 : Int)] 24))).alloc (Nat.le_refl _) (.cells #[.int .i64 l3, .int .u32 (p3 : Int)] 24)
  have hc := LabAt.new ((w.alloc (.cells #[.int .i64 l1, .int .u32 (p1 : Int)] 24)).alloc (.cells #[.int .i64 l2, .int .u32 (p2 : Int)] 24)) (l3, p3) 24
  simp only [World.size_alloc] at hc
  exact ⟨h.atA.below hb, h.atB.below hb, hc, h.bel.alloc h.bel.size _⟩

set_option maxHeartbeats 4000000 in
set_option maxRecDepth 100000 in
theorem LabelLaws_core (l1 : Int) (p1 : Nat) (l2 : Int) (p2 : Nat) (l3 : Int) (p3 : Nat) (lj : Int) (pj : Nat) (lm : Int) (pm : Nat) (lp : Int) (pp : Nat) (lr : Int) (pr : Nat) (lt : Int) (pt : Nat) (x y u v : Bool) (w : World) (hX : Laid w)
    (kjab : ∀ W, Laid W → Calls Try.prog 16 #[.agg #[.int .i64 l1, .int .u32 p1], .agg #[.int .i64 l2, .int .u32 p2]] W fun e w' => e = .returned (.tuple #[.agg #[.int .i64 lj, .int .u32 pj], .int .i64 0]) ∧ Below W.heap.size W w')
    (kmab : ∀ W, Laid W → Calls Try.prog 18 #[.agg #[.int .i64 l1, .int .u32 p1], .agg #[.int .i64 l2, .int .u32 p2]] W fun e w' => e = .returned (.tuple #[.agg #[.int .i64 lm, .int .u32 pm], .int .i64 0]) ∧ Below W.heap.size W w')
    (kca : ∀ W, Calls Try.prog 12 #[.agg #[.int .i64 l1, .int .u32 p1]] W fun e w' => e = .returned (.int .i64 0) ∧ Below W.heap.size W w')
    (kcb : ∀ W, Calls Try.prog 12 #[.agg #[.int .i64 l2, .int .u32 p2]] W fun e w' => e = .returned (.int .i64 0) ∧ Below W.heap.size W w')
    (kcc : ∀ W, Calls Try.prog 12 #[.agg #[.int .i64 l3, .int .u32 p3]] W fun e w' => e = .returned (.int .i64 0) ∧ Below W.heap.size W w')
    (kuac : ∀ W, Laid W → Calls Try.prog 13 #[.agg #[.int .i64 l1, .int .u32 p1], .agg #[.int .i64 l3, .int .u32 p3]] W fun e w' => e = .returned (.tuple #[.bool x, .int .i64 0]) ∧ Below W.heap.size W w')
    (kubc : ∀ W, Laid W → Calls Try.prog 13 #[.agg #[.int .i64 l2, .int .u32 p2], .agg #[.int .i64 l3, .int .u32 p3]] W fun e w' => e = .returned (.tuple #[.bool y, .int .i64 0]) ∧ Below W.heap.size W w')
    (kujc : ∀ W, Laid W → Calls Try.prog 13 #[.agg #[.int .i64 lj, .int .u32 pj], .agg #[.int .i64 l3, .int .u32 p3]] W fun e w' => e = .returned (.tuple #[.bool (x && y), .int .i64 0]) ∧ Below W.heap.size W w')
    (kucm : ∀ W, Laid W → Calls Try.prog 13 #[.agg #[.int .i64 l3, .int .u32 p3], .agg #[.int .i64 lm, .int .u32 pm]] W fun e w' => e = .returned (.tuple #[.bool (u && v), .int .i64 0]) ∧ Below W.heap.size W w')
    (kuca : ∀ W, Laid W → Calls Try.prog 13 #[.agg #[.int .i64 l3, .int .u32 p3], .agg #[.int .i64 l1, .int .u32 p1]] W fun e w' => e = .returned (.tuple #[.bool u, .int .i64 0]) ∧ Below W.heap.size W w')
    (kucb : ∀ W, Laid W → Calls Try.prog 13 #[.agg #[.int .i64 l3, .int .u32 p3], .agg #[.int .i64 l2, .int .u32 p2]] W fun e w' => e = .returned (.tuple #[.bool v, .int .i64 0]) ∧ Below W.heap.size W w')
    (kmcj : ∀ W, Laid W → Calls Try.prog 18 #[.agg #[.int .i64 l3, .int .u32 p3], .agg #[.int .i64 lj, .int .u32 pj]] W fun e w' => e = .returned (.tuple #[.agg #[.int .i64 lp, .int .u32 pp], .int .i64 0]) ∧ Below W.heap.size W w')
    (kmca : ∀ W, Laid W → Calls Try.prog 18 #[.agg #[.int .i64 l3, .int .u32 p3], .agg #[.int .i64 l1, .int .u32 p1]] W fun e w' => e = .returned (.tuple #[.agg #[.int .i64 lr, .int .u32 pr], .int .i64 0]) ∧ Below W.heap.size W w')
    (kmcb : ∀ W, Laid W → Calls Try.prog 18 #[.agg #[.int .i64 l3, .int .u32 p3], .agg #[.int .i64 l2, .int .u32 p2]] W fun e w' => e = .returned (.tuple #[.agg #[.int .i64 lt, .int .u32 pt], .int .i64 0]) ∧ Below W.heap.size W w')
    (kjrt : ∀ W, Laid W → Calls Try.prog 16 #[.agg #[.int .i64 lr, .int .u32 pr], .agg #[.int .i64 lt, .int .u32 pt]] W fun e w' => e = .returned (.tuple #[.agg #[.int .i64 lp, .int .u32 pp], .int .i64 0]) ∧ Below W.heap.size W w') :
    Calls Try.prog 9 #[.agg #[.int .i64 l1, .int .u32 p1], .agg #[.int .i64 l2, .int .u32 p2], .agg #[.int .i64 l3, .int .u32 p3]] w fun e w' => e = .returned (.bool true) ∧ Below w.heap.size w w' := by
  obtain ⟨hA, hB, hC, hbw⟩ := threeBoxL l1 p1 l2 p2 l3 p3 w
  have HLa := Lib.hid hA
  have HLb := Lib.hid hB
  have HLc := Lib.hid hC
  clear hA hB hC
  have Hkjab := Lib.hid kjab
  clear kjab
  have Hkmab := Lib.hid kmab
  clear kmab
  have Hkca := Lib.hid kca
  clear kca
  have Hkcb := Lib.hid kcb
  clear kcb
  have Hkcc := Lib.hid kcc
  clear kcc
  have Hkuac := Lib.hid kuac
  clear kuac
  have Hkubc := Lib.hid kubc
  clear kubc
  have Hkujc := Lib.hid kujc
  clear kujc
  have Hkucm := Lib.hid kucm
  clear kucm
  have Hkuca := Lib.hid kuca
  clear kuca
  have Hkucb := Lib.hid kucb
  clear kucb
  have Hkmcj := Lib.hid kmcj
  clear kmcj
  have Hkmca := Lib.hid kmca
  clear kmca
  have Hkmcb := Lib.hid kmcb
  clear kmcb
  have Hkjrt := Lib.hid kjrt
  clear kjrt
  go_enter Try.func9, Try.ntmps9
  -- step 0
  obtain ⟨a0, a1⟩ := HLa.out
  simp only at a0 a1
  obtain ⟨b0, b1⟩ := HLb.out
  simp only at b0 b1
  go_wp2_with fail
  refine (Hkjab.out _ (hX.below hbw)).mono ?_
  rintro e v0 ⟨rfl, hn⟩
  have hn2 := hn.alloc hn.size (.cells #[.int .i64 lj, .int .u32 (pj : Int)] 24)
  replace HLa := Lib.hid (HLa.out.below hn2)
  replace HLb := Lib.hid (HLb.out.below hn2)
  replace HLc := Lib.hid (HLc.out.below hn2)
  have HLj := Lib.hid (LabAt.new v0 (lj, pj) 24)
  replace hbw := hbw.trans (hn2.mono hbw.size)
  clear hn hn2 a0 a1 b0 b1
  -- step 1
  obtain ⟨a0, a1⟩ := HLa.out
  simp only at a0 a1
  obtain ⟨b0, b1⟩ := HLb.out
  simp only at b0 b1
  go_wp2_with fail
  refine (Hkmab.out _ (hX.below hbw)).mono ?_
  rintro e v1 ⟨rfl, hn⟩
  have hn2 := hn.alloc hn.size (.cells #[.int .i64 lm, .int .u32 (pm : Int)] 24)
  replace HLa := Lib.hid (HLa.out.below hn2)
  replace HLb := Lib.hid (HLb.out.below hn2)
  replace HLc := Lib.hid (HLc.out.below hn2)
  replace HLj := Lib.hid (HLj.out.below hn2)
  have HLm := Lib.hid (LabAt.new v1 (lm, pm) 24)
  replace hbw := hbw.trans (hn2.mono hbw.size)
  clear hn hn2 a0 a1 b0 b1
  -- step 2
  obtain ⟨a0, a1⟩ := HLa.out
  simp only at a0 a1
  go_wp2_with fail
  refine (Hkca.out _).mono ?_
  rintro e v2 ⟨rfl, hn⟩
  replace HLa := Lib.hid (HLa.out.below hn)
  replace HLb := Lib.hid (HLb.out.below hn)
  replace HLc := Lib.hid (HLc.out.below hn)
  replace HLj := Lib.hid (HLj.out.below hn)
  replace HLm := Lib.hid (HLm.out.below hn)
  replace hbw := hbw.trans (hn.mono hbw.size)
  clear hn a0 a1
  -- step 3
  obtain ⟨b0, b1⟩ := HLb.out
  simp only at b0 b1
  go_wp2_with fail
  refine (Hkcb.out _).mono ?_
  rintro e v3 ⟨rfl, hn⟩
  replace HLa := Lib.hid (HLa.out.below hn)
  replace HLb := Lib.hid (HLb.out.below hn)
  replace HLc := Lib.hid (HLc.out.below hn)
  replace HLj := Lib.hid (HLj.out.below hn)
  replace HLm := Lib.hid (HLm.out.below hn)
  replace hbw := hbw.trans (hn.mono hbw.size)
  clear hn b0 b1
  -- step 4
  obtain ⟨c0, c1⟩ := HLc.out
  simp only at c0 c1
  go_wp2_with fail
  refine (Hkcc.out _).mono ?_
  rintro e v4 ⟨rfl, hn⟩
  replace HLa := Lib.hid (HLa.out.below hn)
  replace HLb := Lib.hid (HLb.out.below hn)
  replace HLc := Lib.hid (HLc.out.below hn)
  replace HLj := Lib.hid (HLj.out.below hn)
  replace HLm := Lib.hid (HLm.out.below hn)
  replace hbw := hbw.trans (hn.mono hbw.size)
  clear hn c0 c1
  -- step 5
  obtain ⟨a0, a1⟩ := HLa.out
  simp only at a0 a1
  obtain ⟨c0, c1⟩ := HLc.out
  simp only at c0 c1
  go_wp2_with fail
  refine (Hkuac.out _ (hX.below hbw)).mono ?_
  rintro e v5 ⟨rfl, hn⟩
  replace HLa := Lib.hid (HLa.out.below hn)
  replace HLb := Lib.hid (HLb.out.below hn)
  replace HLc := Lib.hid (HLc.out.below hn)
  replace HLj := Lib.hid (HLj.out.below hn)
  replace HLm := Lib.hid (HLm.out.below hn)
  replace hbw := hbw.trans (hn.mono hbw.size)
  clear hn a0 a1 c0 c1
  -- step 6
  obtain ⟨b0, b1⟩ := HLb.out
  simp only at b0 b1
  obtain ⟨c0, c1⟩ := HLc.out
  simp only at c0 c1
  go_wp2_with fail
  refine (Hkubc.out _ (hX.below hbw)).mono ?_
  rintro e v6 ⟨rfl, hn⟩
  replace HLa := Lib.hid (HLa.out.below hn)
  replace HLb := Lib.hid (HLb.out.below hn)
  replace HLc := Lib.hid (HLc.out.below hn)
  replace HLj := Lib.hid (HLj.out.below hn)
  replace HLm := Lib.hid (HLm.out.below hn)
  replace hbw := hbw.trans (hn.mono hbw.size)
  clear hn b0 b1 c0 c1
  -- step 7
  obtain ⟨c0, c1⟩ := HLc.out
  simp only at c0 c1
  obtain ⟨j0, j1⟩ := HLj.out
  simp only at j0 j1
  go_wp2_with fail
  refine (Hkujc.out _ (hX.below hbw)).mono ?_
  rintro e v7 ⟨rfl, hn⟩
  replace HLa := Lib.hid (HLa.out.below hn)
  replace HLb := Lib.hid (HLb.out.below hn)
  replace HLc := Lib.hid (HLc.out.below hn)
  replace HLj := Lib.hid (HLj.out.below hn)
  replace HLm := Lib.hid (HLm.out.below hn)
  replace hbw := hbw.trans (hn.mono hbw.size)
  clear hn c0 c1 j0 j1
  -- step 8
  obtain ⟨c0, c1⟩ := HLc.out
  simp only at c0 c1
  obtain ⟨m0, m1⟩ := HLm.out
  simp only at m0 m1
  go_wp2_with fail
  refine (Hkucm.out _ (hX.below hbw)).mono ?_
  rintro e v8 ⟨rfl, hn⟩
  replace HLa := Lib.hid (HLa.out.below hn)
  replace HLb := Lib.hid (HLb.out.below hn)
  replace HLc := Lib.hid (HLc.out.below hn)
  replace HLj := Lib.hid (HLj.out.below hn)
  replace HLm := Lib.hid (HLm.out.below hn)
  replace hbw := hbw.trans (hn.mono hbw.size)
  clear hn c0 c1 m0 m1
  -- step 9
  obtain ⟨a0, a1⟩ := HLa.out
  simp only at a0 a1
  obtain ⟨c0, c1⟩ := HLc.out
  simp only at c0 c1
  go_wp2_with fail
  refine (Hkuca.out _ (hX.below hbw)).mono ?_
  rintro e v9 ⟨rfl, hn⟩
  replace HLa := Lib.hid (HLa.out.below hn)
  replace HLb := Lib.hid (HLb.out.below hn)
  replace HLc := Lib.hid (HLc.out.below hn)
  replace HLj := Lib.hid (HLj.out.below hn)
  replace HLm := Lib.hid (HLm.out.below hn)
  replace hbw := hbw.trans (hn.mono hbw.size)
  clear hn a0 a1 c0 c1
  -- step 10
  obtain ⟨b0, b1⟩ := HLb.out
  simp only at b0 b1
  obtain ⟨c0, c1⟩ := HLc.out
  simp only at c0 c1
  go_wp2_with fail
  refine (Hkucb.out _ (hX.below hbw)).mono ?_
  rintro e v10 ⟨rfl, hn⟩
  replace HLa := Lib.hid (HLa.out.below hn)
  replace HLb := Lib.hid (HLb.out.below hn)
  replace HLc := Lib.hid (HLc.out.below hn)
  replace HLj := Lib.hid (HLj.out.below hn)
  replace HLm := Lib.hid (HLm.out.below hn)
  replace hbw := hbw.trans (hn.mono hbw.size)
  clear hn b0 b1 c0 c1
  -- step 11
  obtain ⟨c0, c1⟩ := HLc.out
  simp only at c0 c1
  obtain ⟨j0, j1⟩ := HLj.out
  simp only at j0 j1
  go_wp2_with fail
  refine (Hkmcj.out _ (hX.below hbw)).mono ?_
  rintro e v11 ⟨rfl, hn⟩
  have hn2 := hn.alloc hn.size (.cells #[.int .i64 lp, .int .u32 (pp : Int)] 24)
  replace HLa := Lib.hid (HLa.out.below hn2)
  replace HLb := Lib.hid (HLb.out.below hn2)
  replace HLc := Lib.hid (HLc.out.below hn2)
  replace HLj := Lib.hid (HLj.out.below hn2)
  replace HLm := Lib.hid (HLm.out.below hn2)
  have HLp := Lib.hid (LabAt.new v11 (lp, pp) 24)
  replace hbw := hbw.trans (hn2.mono hbw.size)
  clear hn hn2 c0 c1 j0 j1
  -- step 12
  obtain ⟨a0, a1⟩ := HLa.out
  simp only at a0 a1
  obtain ⟨c0, c1⟩ := HLc.out
  simp only at c0 c1
  go_wp2_with fail
  refine (Hkmca.out _ (hX.below hbw)).mono ?_
  rintro e v12 ⟨rfl, hn⟩
  have hn2 := hn.alloc hn.size (.cells #[.int .i64 lr, .int .u32 (pr : Int)] 24)
  replace HLa := Lib.hid (HLa.out.below hn2)
  replace HLb := Lib.hid (HLb.out.below hn2)
  replace HLc := Lib.hid (HLc.out.below hn2)
  replace HLj := Lib.hid (HLj.out.below hn2)
  replace HLm := Lib.hid (HLm.out.below hn2)
  replace HLp := Lib.hid (HLp.out.below hn2)
  have HLr := Lib.hid (LabAt.new v12 (lr, pr) 24)
  replace hbw := hbw.trans (hn2.mono hbw.size)
  clear hn hn2 a0 a1 c0 c1
  -- step 13
  obtain ⟨b0, b1⟩ := HLb.out
  simp only at b0 b1
  obtain ⟨c0, c1⟩ := HLc.out
  simp only at c0 c1
  go_wp2_with fail
  refine (Hkmcb.out _ (hX.below hbw)).mono ?_
  rintro e v13 ⟨rfl, hn⟩
  have hn2 := hn.alloc hn.size (.cells #[.int .i64 lt, .int .u32 (pt : Int)] 24)
  replace HLa := Lib.hid (HLa.out.below hn2)
  replace HLb := Lib.hid (HLb.out.below hn2)
  replace HLc := Lib.hid (HLc.out.below hn2)
  replace HLj := Lib.hid (HLj.out.below hn2)
  replace HLm := Lib.hid (HLm.out.below hn2)
  replace HLp := Lib.hid (HLp.out.below hn2)
  replace HLr := Lib.hid (HLr.out.below hn2)
  have HLt := Lib.hid (LabAt.new v13 (lt, pt) 24)
  replace hbw := hbw.trans (hn2.mono hbw.size)
  clear hn hn2 b0 b1 c0 c1
  -- step 14
  obtain ⟨r0, r1⟩ := HLr.out
  simp only at r0 r1
  obtain ⟨t0, t1⟩ := HLt.out
  simp only at t0 t1
  go_wp2_with fail
  refine (Hkjrt.out _ (hX.below hbw)).mono ?_
  rintro e v14 ⟨rfl, hn⟩
  have hn2 := hn.alloc hn.size (.cells #[.int .i64 lp, .int .u32 (pp : Int)] 24)
  replace HLa := Lib.hid (HLa.out.below hn2)
  replace HLb := Lib.hid (HLb.out.below hn2)
  replace HLc := Lib.hid (HLc.out.below hn2)
  replace HLj := Lib.hid (HLj.out.below hn2)
  replace HLm := Lib.hid (HLm.out.below hn2)
  replace HLp := Lib.hid (HLp.out.below hn2)
  replace HLr := Lib.hid (HLr.out.below hn2)
  replace HLt := Lib.hid (HLt.out.below hn2)
  have HLq := Lib.hid (LabAt.new v14 (lp, pp) 24)
  replace hbw := hbw.trans (hn2.mono hbw.size)
  clear hn hn2 r0 r1 t0 t1
  obtain ⟨p0, p1'⟩ := HLp.out
  obtain ⟨q0, q1⟩ := HLq.out
  simp only at p0 p1' q0 q1
  clear HLp HLq HLa HLb HLc HLj HLm HLr HLt hX Hkjab Hkmab Hkca Hkcb Hkcc Hkuac Hkubc Hkujc Hkucm Hkuca Hkucb Hkmcj Hkmca Hkmcb Hkjrt
  go_wp2
  all_goals
    go_ret
    refine ⟨ret_bool ?_, hbw⟩
    first
      | rfl
      | (simp; done)
      | (cases x <;> cases y <;> cases u <;> cases v <;> simp_all; done)
      | trace_state

end Go.Proofs.Ytffhklfidgiemaa
