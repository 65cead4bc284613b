/- The laws on Join and Meet, by the document's answer. -/
import Derived.Test.YtogjkkaohaljpaaDoorLatSpec
import Derived.Test.YtogjkkaohaljpaaDoorWJ
namespace Go.Proofs.YtogjkkaohaljpaaDoor
open Go.RowKit

set_option maxHeartbeats 2000000 in
theorem LatticeJoins_with (hJ : BndOk 11 joined) (n : Int) (ps : List (Int × Int)) (A : Option Addr) (c : Nat) (a b : Int) (w : World) (hm : ps.length ≤ maxLen) (hr : Row w A (pairsC ps)) (hX : Laid w) :
    Calls Tryd.prog 3 #[.int .i64 n, .slice A ps.length c, .int .i64 a, .int .i64 b] w fun e w' => e = .returned (.bool true) ∧ Below w.heap.size w w' := by
  by_cases hc : code n ps = 0
  · obtain ⟨h2, h3, h4⟩ := code_zero hc
    obtain ⟨n, rfl⟩ := Int.eq_ofNat_of_zero_le (show 0 ≤ n by unfold Large at h2; omega)
    obtain ⟨hn1, hn6, hl⟩ : 1 ≤ n ∧ n ≤ 6 ∧ ps.length ≤ 20 := by unfold Large at h2; omega
    have HC := Lib.hid hc
    clear h2 h3 h4 hc
    by_cases ho : Off n a b
    · obtain ⟨h5, h6⟩ := bnd_off (f := joined) HC.out ho
      have key := hJ n ps A c a b w hm hr hX
      rw [h5, h6] at key
      clear h5 h6
      go_enter Tryd.func3, Tryd.ntmps3
      go_wp2_with fail
      refine key.mono ?_
      rintro e w1 ⟨rfl, hb1⟩
      go_wp2_with fail
      refine (OrderCheck_any n ps A c _ hm (hr.below hb1)).mono ?_
      rintro e w2 ⟨rfl, hb2⟩
      rw [HC.out]
      have HB := Lib.hid (hb1.trans (hb2.mono hb1.size))
      clear hb1 hb2 key hr
      unfold Off at ho
      by_cases o1 : a < 0
      · clear ho
        go_wp2
        go_ret
        exact ⟨rfl, HB.out⟩
      · by_cases o2 : (n : Int) ≤ a
        · clear ho
          go_wp2
          go_ret
          exact ⟨rfl, HB.out⟩
        · by_cases o3 : b < 0
          · clear ho
            go_wp2
            go_ret
            exact ⟨rfl, HB.out⟩
          · have o4 : (n : Int) ≤ b := by omega
            clear ho
            go_wp2
            go_ret
            exact ⟨rfl, HB.out⟩
    · have HO := Lib.hid ho
      obtain ⟨a, rfl⟩ := Int.eq_ofNat_of_zero_le (show 0 ≤ a by unfold Off at ho; omega)
      obtain ⟨b, rfl⟩ := Int.eq_ofNat_of_zero_le (show 0 ≤ b by unfold Off at ho; omega)
      obtain ⟨han, hbn⟩ : a < n ∧ b < n := by unfold Off at ho; omega
      clear ho
      by_cases hneg : joined n ps a b < 0
      · obtain ⟨h5, h6⟩ := bnd_none (f := joined) HC.out HO.out hneg
        have key := hJ n ps A c a b w hm hr hX
        rw [h5, h6] at key
        clear h5 h6
        go_enter Tryd.func3, Tryd.ntmps3
        go_wp2_with fail
        refine key.mono ?_
        rintro e w1 ⟨rfl, hb1⟩
        go_wp2_with fail
        refine (OrderCheck_any n ps A c _ hm (hr.below hb1)).mono ?_
        rintro e w2 ⟨rfl, hb2⟩
        rw [HC.out]
        have hb02 := hb1.trans (hb2.mono hb1.size)
        clear hb1 hb2 key
        go_wp2_with fail
        refine (Joined_any n a b ps A c _ (hr.below hb02) hn6 hl).mono ?_
        rintro e w3 ⟨rfl, hb3⟩
        have HB := Lib.hid (hb02.trans (hb3.mono hb02.size))
        clear hb02 hb3
        go_wp2
        go_ret
        exact ⟨rfl, HB.out⟩
      · obtain ⟨h5, h6⟩ := bnd_ok (f := joined) HC.out HO.out hneg
        have key := hJ n ps A c a b w hm hr hX
        rw [h5, h6] at key
        rw [Int.toNat_natCast, Int.toNat_natCast, Int.toNat_natCast] at key
        clear h5 h6
        go_enter Tryd.func3, Tryd.ntmps3
        go_wp2_with fail
        refine key.mono ?_
        rintro e w1 ⟨rfl, hb1⟩
        go_wp2_with fail
        refine (OrderCheck_any n ps A c _ hm (hr.below hb1)).mono ?_
        rintro e w2 ⟨rfl, hb2⟩
        rw [HC.out]
        have hb02 := hb1.trans (hb2.mono hb1.size)
        clear hb1 hb2 key
        go_wp2_with fail
        refine (Joined_any n a b ps A c _ (hr.below hb02) hn6 hl).mono ?_
        rintro e w3 ⟨rfl, hb3⟩
        have hb03 := hb02.trans (hb3.mono hb02.size)
        clear hb02 hb3
        go_wp2_with fail
        refine (Joined_any n a b ps A c _ (hr.below hb03) hn6 hl).mono ?_
        rintro e w4 ⟨rfl, hb4⟩
        have HB := Lib.hid (hb03.trans (hb4.mono hb03.size))
        clear hb03 hb4
        go_wp2
        go_ret
        exact ⟨rfl, HB.out⟩
  · obtain ⟨h5, h6⟩ := bnd_err (f := joined) (a := a) (b := b) hc
    have key := hJ n ps A c a b w hm hr hX
    rw [h5, h6] at key
    clear h5 h6
    go_enter Tryd.func3, Tryd.ntmps3
    go_wp2_with fail
    refine key.mono ?_
    rintro e w1 ⟨rfl, hb1⟩
    go_wp2_with fail
    refine (OrderCheck_any n ps A c _ hm (hr.below hb1)).mono ?_
    rintro e w2 ⟨rfl, hb2⟩
    have HB := Lib.hid (hb1.trans (hb2.mono hb1.size))
    clear key
    generalize code n ps = k at *
    have hk : (k == 0) = false := by simpa using hc
    have hk2 : (k != 0) = true := by simpa using hc
    clear hc hb1 hb2
    go_wp2
    go_ret
    exact ⟨rfl, HB.out⟩

set_option maxHeartbeats 2000000 in
theorem LatticeMeets_with (hJ : BndOk 14 met) (n : Int) (ps : List (Int × Int)) (A : Option Addr) (c : Nat) (a b : Int) (w : World) (hm : ps.length ≤ maxLen) (hr : Row w A (pairsC ps)) (hX : Laid w) :
    Calls Tryd.prog 4 #[.int .i64 n, .slice A ps.length c, .int .i64 a, .int .i64 b] w fun e w' => e = .returned (.bool true) ∧ Below w.heap.size w w' := by
  by_cases hc : code n ps = 0
  · obtain ⟨h2, h3, h4⟩ := code_zero hc
    obtain ⟨n, rfl⟩ := Int.eq_ofNat_of_zero_le (show 0 ≤ n by unfold Large at h2; omega)
    obtain ⟨hn1, hn6, hl⟩ : 1 ≤ n ∧ n ≤ 6 ∧ ps.length ≤ 20 := by unfold Large at h2; omega
    have HC := Lib.hid hc
    clear h2 h3 h4 hc
    by_cases ho : Off n a b
    · obtain ⟨h5, h6⟩ := bnd_off (f := met) HC.out ho
      have key := hJ n ps A c a b w hm hr hX
      rw [h5, h6] at key
      clear h5 h6
      go_enter Tryd.func4, Tryd.ntmps4
      go_wp2_with fail
      refine key.mono ?_
      rintro e w1 ⟨rfl, hb1⟩
      go_wp2_with fail
      refine (OrderCheck_any n ps A c _ hm (hr.below hb1)).mono ?_
      rintro e w2 ⟨rfl, hb2⟩
      rw [HC.out]
      have HB := Lib.hid (hb1.trans (hb2.mono hb1.size))
      clear hb1 hb2 key hr
      unfold Off at ho
      by_cases o1 : a < 0
      · clear ho
        go_wp2
        go_ret
        exact ⟨rfl, HB.out⟩
      · by_cases o2 : (n : Int) ≤ a
        · clear ho
          go_wp2
          go_ret
          exact ⟨rfl, HB.out⟩
        · by_cases o3 : b < 0
          · clear ho
            go_wp2
            go_ret
            exact ⟨rfl, HB.out⟩
          · have o4 : (n : Int) ≤ b := by omega
            clear ho
            go_wp2
            go_ret
            exact ⟨rfl, HB.out⟩
    · have HO := Lib.hid ho
      obtain ⟨a, rfl⟩ := Int.eq_ofNat_of_zero_le (show 0 ≤ a by unfold Off at ho; omega)
      obtain ⟨b, rfl⟩ := Int.eq_ofNat_of_zero_le (show 0 ≤ b by unfold Off at ho; omega)
      obtain ⟨han, hbn⟩ : a < n ∧ b < n := by unfold Off at ho; omega
      clear ho
      by_cases hneg : met n ps a b < 0
      · obtain ⟨h5, h6⟩ := bnd_none (f := met) HC.out HO.out hneg
        have key := hJ n ps A c a b w hm hr hX
        rw [h5, h6] at key
        clear h5 h6
        go_enter Tryd.func4, Tryd.ntmps4
        go_wp2_with fail
        refine key.mono ?_
        rintro e w1 ⟨rfl, hb1⟩
        go_wp2_with fail
        refine (OrderCheck_any n ps A c _ hm (hr.below hb1)).mono ?_
        rintro e w2 ⟨rfl, hb2⟩
        rw [HC.out]
        have hb02 := hb1.trans (hb2.mono hb1.size)
        clear hb1 hb2 key
        go_wp2_with fail
        refine (Met_any n a b ps A c _ (hr.below hb02) hn6 hl).mono ?_
        rintro e w3 ⟨rfl, hb3⟩
        have HB := Lib.hid (hb02.trans (hb3.mono hb02.size))
        clear hb02 hb3
        go_wp2
        go_ret
        exact ⟨rfl, HB.out⟩
      · obtain ⟨h5, h6⟩ := bnd_ok (f := met) HC.out HO.out hneg
        have key := hJ n ps A c a b w hm hr hX
        rw [h5, h6] at key
        rw [Int.toNat_natCast, Int.toNat_natCast, Int.toNat_natCast] at key
        clear h5 h6
        go_enter Tryd.func4, Tryd.ntmps4
        go_wp2_with fail
        refine key.mono ?_
        rintro e w1 ⟨rfl, hb1⟩
        go_wp2_with fail
        refine (OrderCheck_any n ps A c _ hm (hr.below hb1)).mono ?_
        rintro e w2 ⟨rfl, hb2⟩
        rw [HC.out]
        have hb02 := hb1.trans (hb2.mono hb1.size)
        clear hb1 hb2 key
        go_wp2_with fail
        refine (Met_any n a b ps A c _ (hr.below hb02) hn6 hl).mono ?_
        rintro e w3 ⟨rfl, hb3⟩
        have hb03 := hb02.trans (hb3.mono hb02.size)
        clear hb02 hb3
        go_wp2_with fail
        refine (Met_any n a b ps A c _ (hr.below hb03) hn6 hl).mono ?_
        rintro e w4 ⟨rfl, hb4⟩
        have HB := Lib.hid (hb03.trans (hb4.mono hb03.size))
        clear hb03 hb4
        go_wp2
        go_ret
        exact ⟨rfl, HB.out⟩
  · obtain ⟨h5, h6⟩ := bnd_err (f := met) (a := a) (b := b) hc
    have key := hJ n ps A c a b w hm hr hX
    rw [h5, h6] at key
    clear h5 h6
    go_enter Tryd.func4, Tryd.ntmps4
    go_wp2_with fail
    refine key.mono ?_
    rintro e w1 ⟨rfl, hb1⟩
    go_wp2_with fail
    refine (OrderCheck_any n ps A c _ hm (hr.below hb1)).mono ?_
    rintro e w2 ⟨rfl, hb2⟩
    have HB := Lib.hid (hb1.trans (hb2.mono hb1.size))
    clear key
    generalize code n ps = k at *
    have hk : (k == 0) = false := by simpa using hc
    have hk2 : (k != 0) = true := by simpa using hc
    clear hc hb1 hb2
    go_wp2
    go_ret
    exact ⟨rfl, HB.out⟩

end Go.Proofs.YtogjkkaohaljpaaDoor
