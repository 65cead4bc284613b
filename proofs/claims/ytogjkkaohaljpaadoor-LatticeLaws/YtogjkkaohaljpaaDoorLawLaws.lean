/- The laws on lattices without the document's answer. -/
import Derived.Test.YtogjkkaohaljpaaDoorLatSpec
namespace Go.Proofs.YtogjkkaohaljpaaDoor
open Go.RowKit

theorem not_off {n a b : Nat} (ha : a < n) (hb : b < n) : ¬ Off n a b := by unfold Off; omega
theorem bnd_at {f : Nat → List (Int × Int) → Nat → Nat → Int} {n a b c : Nat} {ps : List (Int × Int)} (h : code n ps = 0) (ha : a < n) (hb : b < n) (k : f n ps a b = c) : bndC f n ps a b = 0 ∧ bndV f n ps a b = c := by
  obtain ⟨h1, h2⟩ := bnd_ok (f := f) h (not_off ha hb) (by rw [Int.toNat_natCast, Int.toNat_natCast, Int.toNat_natCast, k]; omega)
  rw [Int.toNat_natCast, Int.toNat_natCast, Int.toNat_natCast, k] at h2
  exact ⟨h1, h2⟩
theorem bnd_neg {f : Nat → List (Int × Int) → Nat → Nat → Int} {n a b : Nat} {ps : List (Int × Int)} (h : code n ps = 0) (ha : a < n) (hb : b < n) (k : f n ps a b = -1) : bndC f n ps a b = 5 ∧ bndV f n ps a b = 0 :=
  bnd_none (f := f) h (not_off ha hb) (by rw [Int.toNat_natCast, Int.toNat_natCast, Int.toNat_natCast, k]; omega)

set_option maxHeartbeats 2000000 in
theorem LatticeLaws_with (hJ : BndOk 11 joined) (hM : BndOk 14 met) (n : Int) (ps : List (Int × Int)) (A : Option Addr) (c : Nat) (a b : Int) (w : World) (hm : ps.length ≤ maxLen) (hr : Row w A (pairsC ps)) (hX : Laid w) :
    Calls Tryd.prog 9 #[.int .i64 n, .slice A ps.length c, .int .i64 a, .int .i64 b] w fun e w' => e = .returned (.bool true) ∧ Below w.heap.size w w' := by
  by_cases hc : code n ps = 0
  · obtain ⟨h2, h3, h4⟩ := code_zero hc
    obtain ⟨n, rfl⟩ := Int.eq_ofNat_of_zero_le (show 0 ≤ n by unfold Large at h2; omega)
    obtain ⟨hn1, hn6, hl⟩ : 1 ≤ n ∧ n ≤ 6 ∧ ps.length ≤ 20 := by unfold Large at h2; omega
    have HC := Lib.hid hc
    have HY := Lib.hid h4
    clear h2 h3 h4 hc
    by_cases ho : Off n a b
    · obtain ⟨j1, j2⟩ := bnd_off (f := joined) HC.out ho
      obtain ⟨m1, m2⟩ := bnd_off (f := met) HC.out ho
      have HJ := Lib.hid (And.intro j1 j2)
      have HM := Lib.hid (And.intro m1 m2)
      clear j1 j2 m1 m2
      go_enter Tryd.func9, Tryd.ntmps9
      go_wp2_with fail
      refine (hJ n ps A c a b _ hm hr hX).mono ?_
      rintro e w1 ⟨rfl, hb1⟩
      rw [HJ.out.1, HJ.out.2]
      go_wp2_with fail
      refine (hM n ps A c a b _ hm (hr.below hb1) (hX.below hb1)).mono ?_
      rintro e w2 ⟨rfl, hb2⟩
      rw [HM.out.1, HM.out.2]
      have hb02 := hb1.trans (hb2.mono hb1.size)
      go_wp2_with fail
      refine (ordered_any n ps A c _ hm (hr.below hb02)).mono ?_
      rintro e w3 ⟨rfl, hb3⟩
      rw [HC.out]
      have HB := Lib.hid (hb02.trans (hb3.mono hb02.size))
      clear hb1 hb2 hb3 hb02 hr hJ hM HJ HM
      unfold Off at ho
      by_cases o1 : a < 0
      · clear ho
        go_wp2
        go_ret
        exact ⟨rfl, HB.out⟩
      · by_cases o2 : b < 0
        · clear ho
          go_wp2
          go_ret
          exact ⟨rfl, HB.out⟩
        · by_cases o3 : (n : Int) ≤ a
          · clear ho
            go_wp2
            go_ret
            exact ⟨rfl, HB.out⟩
          · have o4 : (n : Int) ≤ b := by omega
            clear ho
            go_wp2
            go_ret
            exact ⟨rfl, HB.out⟩
    · obtain ⟨a, rfl⟩ := Int.eq_ofNat_of_zero_le (show 0 ≤ a by unfold Off at ho; omega)
      obtain ⟨b, rfl⟩ := Int.eq_ofNat_of_zero_le (show 0 ≤ b by unfold Off at ho; omega)
      obtain ⟨han, hbn⟩ : a < n ∧ b < n := by unfold Off at ho; omega
      clear ho
      have HOwn := Lib.hid (bnd_at (f := joined) HC.out han han (joined_own HY.out han))
      rcases joined_cases n ps a b with ⟨hj, _⟩ | ⟨j, hj, hij⟩
      · have HJ := Lib.hid (bnd_neg (f := joined) HC.out han hbn hj)
        have HK := Lib.hid (bnd_neg (f := joined) HC.out hbn han (by rw [joined_comm HY.out]; exact hj))
        clear hj
        go_enter Tryd.func9, Tryd.ntmps9
        go_wp2_with fail
        refine (hJ n ps A c a b _ hm hr hX).mono ?_
        rintro e w1 ⟨rfl, hb1⟩
        rw [HJ.out.1, HJ.out.2]
        go_wp2_with fail
        refine (hM n ps A c a b _ hm (hr.below hb1) (hX.below hb1)).mono ?_
        rintro e w2 ⟨rfl, hb2⟩
        have hb02 := hb1.trans (hb2.mono hb1.size)
        generalize bndV met n ps a b = mv at *
        generalize bndC met n ps a b = mc at *
        go_wp2_with fail
        refine (ordered_any n ps A c _ hm (hr.below hb02)).mono ?_
        rintro e w3 ⟨rfl, hb3⟩
        rw [HC.out]
        have hb03 := hb02.trans (hb3.mono hb02.size)
        go_wp2_with fail
        refine (hJ n ps A c a a _ hm (hr.below hb03) (hX.below hb03)).mono ?_
        rintro e w4 ⟨rfl, hb4⟩
        rw [HOwn.out.1, HOwn.out.2]
        have hb04 := hb03.trans (hb4.mono hb03.size)
        go_wp2_with fail
        refine (hJ n ps A c b a _ hm (hr.below hb04) (hX.below hb04)).mono ?_
        rintro e w5 ⟨rfl, hb5⟩
        rw [HK.out.1, HK.out.2]
        have HB := Lib.hid (hb04.trans (hb5.mono hb04.size))
        clear hb1 hb2 hb02 hb3 hb03 hb4 hb04 hb5 hr hJ hM
        go_wp2
        go_ret
        exact ⟨rfl, HB.out⟩
      · have HJ := Lib.hid (bnd_at (f := joined) HC.out han hbn hj)
        have HK := Lib.hid (bnd_at (f := joined) HC.out hbn han (by rw [joined_comm HY.out]; exact hj))
        have hjn := hij.lt
        have HIJ := Lib.hid hij
        clear hj hij
        rcases joined_cases n (turned ps) a b with ⟨hm1, _⟩ | ⟨m, hm1, him⟩
        · have HM := Lib.hid (bnd_neg (f := met) HC.out han hbn hm1)
          clear hm1
          go_enter Tryd.func9, Tryd.ntmps9
          go_wp2_with fail
          refine (hJ n ps A c a b _ hm hr hX).mono ?_
          rintro e w1 ⟨rfl, hb1⟩
          rw [HJ.out.1, HJ.out.2]
          go_wp2_with fail
          refine (hM n ps A c a b _ hm (hr.below hb1) (hX.below hb1)).mono ?_
          rintro e w2 ⟨rfl, hb2⟩
          rw [HM.out.1, HM.out.2]
          have hb02 := hb1.trans (hb2.mono hb1.size)
          go_wp2_with fail
          refine (ordered_any n ps A c _ hm (hr.below hb02)).mono ?_
          rintro e w3 ⟨rfl, hb3⟩
          rw [HC.out]
          have hb03 := hb02.trans (hb3.mono hb02.size)
          go_wp2_with fail
          refine (hJ n ps A c a a _ hm (hr.below hb03) (hX.below hb03)).mono ?_
          rintro e w4 ⟨rfl, hb4⟩
          rw [HOwn.out.1, HOwn.out.2]
          have hb04 := hb03.trans (hb4.mono hb03.size)
          go_wp2_with fail
          refine (hJ n ps A c b a _ hm (hr.below hb04) (hX.below hb04)).mono ?_
          rintro e w5 ⟨rfl, hb5⟩
          rw [HK.out.1, HK.out.2]
          have HB := Lib.hid (hb04.trans (hb5.mono hb04.size))
          clear hb1 hb2 hb02 hb3 hb03 hb4 hb04 hb5 hr hJ hM
          go_wp2
          go_ret
          exact ⟨rfl, HB.out⟩
        · have HM := Lib.hid (bnd_at (f := met) HC.out han hbn hm1)
          have hmn := him.lt
          have HX := Lib.hid (bnd_at (f := joined) HC.out han hmn (absorb HY.out han him))
          have HZ := Lib.hid (bnd_at (f := met) HC.out han hjn (absorb (b := b) (turned_cyc HY.out) han (by rw [turned_turned]; exact HIJ.out)))
          clear hm1 him
          go_enter Tryd.func9, Tryd.ntmps9
          go_wp2_with fail
          refine (hJ n ps A c a b _ hm hr hX).mono ?_
          rintro e w1 ⟨rfl, hb1⟩
          rw [HJ.out.1, HJ.out.2]
          go_wp2_with fail
          refine (hM n ps A c a b _ hm (hr.below hb1) (hX.below hb1)).mono ?_
          rintro e w2 ⟨rfl, hb2⟩
          rw [HM.out.1, HM.out.2]
          have hb02 := hb1.trans (hb2.mono hb1.size)
          go_wp2_with fail
          refine (ordered_any n ps A c _ hm (hr.below hb02)).mono ?_
          rintro e w3 ⟨rfl, hb3⟩
          rw [HC.out]
          have hb03 := hb02.trans (hb3.mono hb02.size)
          go_wp2_with fail
          refine (hJ n ps A c a a _ hm (hr.below hb03) (hX.below hb03)).mono ?_
          rintro e w4 ⟨rfl, hb4⟩
          rw [HOwn.out.1, HOwn.out.2]
          have hb04 := hb03.trans (hb4.mono hb03.size)
          go_wp2_with fail
          refine (hJ n ps A c b a _ hm (hr.below hb04) (hX.below hb04)).mono ?_
          rintro e w5 ⟨rfl, hb5⟩
          rw [HK.out.1, HK.out.2]
          have hb05 := hb04.trans (hb5.mono hb04.size)
          go_wp2_with fail
          refine (hJ n ps A c a m _ hm (hr.below hb05) (hX.below hb05)).mono ?_
          rintro e w6 ⟨rfl, hb6⟩
          rw [HX.out.1, HX.out.2]
          have hb06 := hb05.trans (hb6.mono hb05.size)
          go_wp2_with fail
          refine (hM n ps A c a j _ hm (hr.below hb06) (hX.below hb06)).mono ?_
          rintro e w7 ⟨rfl, hb7⟩
          rw [HZ.out.1, HZ.out.2]
          have HB := Lib.hid (hb06.trans (hb7.mono hb06.size))
          clear hb1 hb2 hb02 hb3 hb03 hb4 hb04 hb5 hb05 hb6 hb06 hb7 hr hJ hM
          go_wp2
          go_ret
          exact ⟨rfl, HB.out⟩
  · obtain ⟨j1, j2⟩ := bnd_err (f := joined) (a := a) (b := b) hc
    obtain ⟨m1, m2⟩ := bnd_err (f := met) (a := a) (b := b) hc
    have HJ := Lib.hid (And.intro j1 j2)
    have HM := Lib.hid (And.intro m1 m2)
    clear j1 j2 m1 m2
    go_enter Tryd.func9, Tryd.ntmps9
    go_wp2_with fail
    refine (hJ n ps A c a b _ hm hr hX).mono ?_
    rintro e w1 ⟨rfl, hb1⟩
    rw [HJ.out.1, HJ.out.2]
    go_wp2_with fail
    refine (hM n ps A c a b _ hm (hr.below hb1) (hX.below hb1)).mono ?_
    rintro e w2 ⟨rfl, hb2⟩
    rw [HM.out.1, HM.out.2]
    have hb02 := hb1.trans (hb2.mono hb1.size)
    go_wp2_with fail
    refine (ordered_any n ps A c _ hm (hr.below hb02)).mono ?_
    rintro e w3 ⟨rfl, hb3⟩
    have HB := Lib.hid (hb02.trans (hb3.mono hb02.size))
    clear hb1 hb2 hb3 hb02 hr hJ hM HJ HM
    generalize code n ps = k at *
    have hk : (k != 0) = true := by simpa using hc
    have hk2 : (k == 0) = false := by simpa using hc
    clear hc
    go_wp2
    go_ret
    exact ⟨rfl, HB.out⟩

end Go.Proofs.YtogjkkaohaljpaaDoor
